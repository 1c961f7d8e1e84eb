/-
  What stands below some laws' proofs, part 5: contracts of functions, by an evaluator.
-/
import Derived.Test.YtoindmahilbalaaGreatZX4
namespace Go.Proofs.YtoindmahilbalaaGreat
open Abs
theorem put_step {m v : List Str} {k : Nat} (hk : k < v.length) : insAll blt (m ++ v.take (k + 1)) = ins blt (v.getD k []) false (insAll blt (m ++ v.take k)) := by
 rw [take_succ' [] hk, ← List.append_assoc, ins_snoc]
theorem bvC_yes {x : VCond} (h : x.1 = 1) : bvC x = insAll blt (vs x.2.1.2) := by rw [bvC, if_pos h]
theorem bvC_no {x : VCond} (h : x.1 ≠ 1) : bvC x = [] := by rw [bvC, if_neg h]
theorem ins_app_le (m v : List Str) (k : Nat) : (insAll blt (m ++ v.take k)).length ≤ m.length + v.length := by
 refine Nat.le_trans (insAll_le _) ?_
 rw [List.length_append, List.length_take]; omega
theorem sBoundVars.own (r : VRule) (n : Int) (h : tRule.size r ≤ 1048576) : sBoundVars.Own [.agg (oldL (tRule.q r)), .val (.int .i64 n)] (strT (bvF r.2.2.1 n.toNat)) := by
 refine Abs.IrAt.ownP sBoundVars.ir rfl ?_
 rw [tRule_sz] at h
 repeat' first
  | (conv => whnf
     first | refine Need.mk rfl ?_)
 refine ALoop.mk (Nat × Nat × Fr) (fun a => ⟨[(1, .val (.int .i64 n)), (2, .bptr 0 0), (5, .list (some a.2.1) (strs (insAll blt (fm bvC (r.2.2.1.take a.1))))), (6, .val (.int .i64 a.1))], [.cells .var (oldL (tRule.q r))], a.2.2⟩) (fun a => a.1 ≤ r.2.2.1.length ∧ (a.1 : Int) ≤ max n 0 ∧ a.2.2[a.2.1]? = some (9, 1, (insAll blt (fm bvC (r.2.2.1.take a.1))).length)) (fun a => r.2.2.1.length - a.1) ⟨(0, 0, [(9, 1, 0)]), ⟨Nat.zero_le _, by show (0 : Int) ≤ _; omega, rfl⟩, ?_⟩ (fun a ha => ?_)
 ·repeat' first
   | exact trivial | refine wl_ ?_ ?_ ?_ ?_ | refine And.intro ?_ ?_ | with_reducible rfl | exact ble_ | refine fr1 ?_ | refine AV.int_congr ?_ | refine AV.list_congr ?_ | (apply rfl)
 obtain ⟨hi, hn, hF⟩ := ha
 have hl := fm_lenT tCond bvC bvC_len r.2.2.1 a.1
 by_cases hi' : a.1 < r.2.2.1.length ∧ (a.1 : Int) < n
 rotate_left
 ·repeat' first
   | (conv => whnf
      first | refine Need.mk (fun h => h) ?_ | refine Need.mk rfl ?_ | refine Fork.andN ?_)
  have e : r.2.2.1.take a.1 = r.2.2.1.take n.toNat := by
   rcases Nat.lt_or_ge a.1 r.2.2.1.length with h1 | h1
   ·have : a.1 = n.toNat := by omega
    rw [this]
   ·rw [List.take_of_length_le h1, List.take_of_length_le (by omega)]
  rw [e] at hF
  rw [e]
  exact own_anyP hF
 have hc := cond_le hi'.1
 have hz := tCond_sz (r.2.2.1.getD a.1 default)
 have hp := tCond_pat (r.2.2.1.getD a.1 default)
 have hstep := fm_take default bvC hi'.1
 have hbl := bvC_len (r.2.2.1.getD a.1 default)
 have hvo := sVarsOf.own (r.2.2.1.getD a.1 default).2.1 (by omega)
 have hok := ok_strT (insAll blt (vs (r.2.2.1.getD a.1 default).2.1.2))
 by_cases hk1 : (r.2.2.1.getD a.1 default).1 = 1
 rotate_left
 ·rw [bvC_no hk1, List.append_nil] at hstep
  repeat' first
   | (conv => whnf
      first | refine Need.mk (fun h => h) ?_ | refine Need.mk rfl ?_ | refine Ix.mapN (fun _ => rfl) ?_ | refine Fork.andY ?_ | refine Fork.decN ?_ | refine Round.mk ?_)
  refine ⟨(a.1 + 1, a.2.1, a.2.2), ⟨by omega, by show ((a.1 + 1 : Nat) : Int) ≤ _; omega, by rw [hstep]; exact hF⟩, ?_, by omega⟩
  repeat' first
   | exact trivial | refine wl_ ?_ ?_ ?_ ?_ | refine And.intro ?_ ?_ | with_reducible rfl | exact ble_ | refine AV.int_congr ?_ | refine AV.list_congr ?_ | (apply rfl)
  ·rw [hstep]
  ·rw [wrap64 (by omega) (by omega)]; rfl
 rw [← bvC_yes hk1] at hvo hok
 repeat' first
  | (conv => whnf
     first | refine Need.mk (fun h => h) ?_ | refine Need.mk rfl ?_ | refine nb_ ?_ | refine Ix.mapN (fun _ => rfl) ?_ | refine Fork.decY ?_ | refine Fork.andY ?_ | refine ACall.oldA _ _ (hvo) ?_)
 ·refine ALoop.mk (Nat × Nat × Fr) (fun c => ⟨[(1, .val (.int .i64 n)), (2, .bptr 0 0), (5, .list (some c.2.1) (strs (insAll blt (fm bvC (r.2.2.1.take a.1) ++ (bvC (r.2.2.1.getD a.1 default)).take c.1)))), (6, .val (.int .i64 a.1)), (7, .list none (strs (bvC (r.2.2.1.getD a.1 default)))), (8, .val (.int .i64 c.1))], [.cells .var (oldL (tRule.q r))], c.2.2⟩) (fun c => c.1 ≤ (bvC (r.2.2.1.getD a.1 default)).length ∧ c.2.2[c.2.1]? = some (9, 1, (insAll blt (fm bvC (r.2.2.1.take a.1) ++ (bvC (r.2.2.1.getD a.1 default)).take c.1)).length)) (fun c => (bvC (r.2.2.1.getD a.1 default)).length - c.1) ⟨(0, a.2.1, a.2.2), ⟨Nat.zero_le _, by rw [List.take_zero, List.append_nil]; exact hF⟩, ?_⟩ (fun c hcc => ?_)
  ·repeat' first
    | exact trivial | refine wl_ ?_ ?_ ?_ ?_ | refine And.intro ?_ ?_ | with_reducible rfl | exact ble_ | refine AV.int_congr ?_ | refine AV.list_congr ?_ | (apply rfl)
   show strs _ = strs (insAll blt (fm bvC (r.2.2.1.take a.1) ++ List.take 0 _))
   rw [List.take_zero, List.append_nil]
  obtain ⟨hk, hG⟩ := hcc
  by_cases hk' : c.1 < (bvC (r.2.2.1.getD a.1 default)).length
  rotate_left
  ·rw [List.take_of_length_le (show (bvC (r.2.2.1.getD a.1 default)).length ≤ c.1 by omega), ← hstep] at hG
   repeat' first
    | (conv => whnf
       first | refine Need.mk rfl ?_ | refine Fork.decN ?_ | refine Round.mk ?_)
   refine ⟨(a.1 + 1, c.2.1, c.2.2), ⟨by omega, by show ((a.1 + 1 : Nat) : Int) ≤ _; omega, hG⟩, ?_, by omega⟩
   repeat' first
    | exact trivial | refine wl_ ?_ ?_ ?_ ?_ | refine And.intro ?_ ?_ | with_reducible rfl | exact ble_ | refine AV.int_congr ?_ | refine AV.list_congr ?_ | (apply rfl)
   ·rw [List.take_of_length_le (show (bvC (r.2.2.1.getD a.1 default)).length ≤ c.1 by omega), ← hstep]
   ·rw [wrap64 (by omega) (by omega)]; rfl
  have hst := put_step (m := fm bvC (r.2.2.1.take a.1)) hk'
  have hle := ins_app_le (fm bvC (r.2.2.1.take a.1)) (bvC (r.2.2.1.getD a.1 default)) c.1
  have hl1 := fm_lenT tCond bvC bvC_len r.2.2.1 (a.1 + 1)
  rw [hstep, List.length_append] at hl1
  repeat' first
   | (conv => whnf
      first | refine Need.mk rfl ?_ | refine Ix.strsN rfl ?_ | refine Fork.decY ?_ | refine Round.mk ?_ | refine ACall.mkStrs _ _ (sPut.ret _ _ ?_) (by repeat' first | exact SeesL.nil | refine SeesL.cons ?_ ?_ | exact SeesB.of0 (Sees0.val _) | exact SeesB.of0 (Sees0.str _) | exact SeesB.of0 (Sees0.olds _ _) | exact SeesB.of0 (Sees0.old _) | exact SeesB.of0 (Sees0.oldagg _) | exact SeesB.of0 Sees0.nil | exact Sees0.val _ | exact Sees0.str _ | exact Sees0.olds _ _ | exact Sees0.old _ | exact Sees0.oldagg _ | exact Sees0.nil | exact SeesB.of0 (Sees0.any _) | assumption | exact sees_gv _ _ _ (by assumption) (by first | assumption | exact BoxIn.last _ _ | exact BoxIn.more (BoxIn.last _ _) _) | refine SeesB.agg ?_ | refine Sees0.agg ?_ | exact SeesB.of0 (Sees0.clo SeesL.nil SeesL.nil) | exact Sees0.clo SeesL.nil SeesL.nil | exact SeesB.of0 (Sees0.list rfl) | exact Sees0.list rfl) ?_)
  ·omega
  refine ⟨(c.1 + 1, c.2.2.length, c.2.2 ++ [(9, 1, (insAll blt (fm bvC (r.2.2.1.take a.1) ++ (bvC (r.2.2.1.getD a.1 default)).take (c.1 + 1))).length)]), ⟨by omega, by simp⟩, ?_, by omega⟩
  repeat' first
   | exact trivial | refine wl_ ?_ ?_ ?_ ?_ | refine And.intro ?_ ?_ | with_reducible rfl | exact ble_ | refine AV.int_congr ?_ | refine AV.list_congr ?_ | (apply rfl)
  ·show strs _ = strs (insAll blt (fm bvC (r.2.2.1.take a.1) ++ (bvC (r.2.2.1.getD a.1 default)).take (c.1 + 1)))
   rw [hst, Int.toNat_natCast] <;> rfl
  ·rw [wrap64 (by omega) (by omega)]; rfl
  ·show c.2.2 ++ [(9, 1, (ins blt ((bvC (r.2.2.1.getD a.1 default)).getD c.1 []) false (insAll blt (fm bvC (r.2.2.1.take a.1) ++ (bvC (r.2.2.1.getD a.1 default)).take c.1))).length)] = c.2.2 ++ [_]
   rw [hst]
theorem take_min {α : Type} (l : List α) (n : Int) : (l.take (min (max n 0) (l.length : Int)).toNat).drop (0 : Int).toNat = l.take n.toNat := by
 rw [show (0 : Int).toNat = 0 from rfl, List.drop_zero]
 rcases Int.le_total n l.length with h | h
 ·have : (min (max n 0) (l.length : Int)).toNat = n.toNat := by omega
  rw [this]
 ·have : (min (max n 0) (l.length : Int)).toNat = l.length := by omega
  rw [this, List.take_length, List.take_of_length_le (by omega)]
theorem pBoundVars.own (r : VRule) (n : Int) (h : tRule.size r ≤ 1048576) : pBoundVars.Own [.agg (oldL (tRule.q r)), .val (.int .i64 n)] (strT (bvF r.2.2.1 n.toNat)) := by
 refine own_row (k := 1) rfl (?_ : pBoundVars.Ret _ (.list (some 1) (strs (bvF r.2.2.1 n.toNat))) [(9, 1, (fm bvC (r.2.2.1.take n.toNat)).length), (9, 1, (bvF r.2.2.1 n.toNat).length)])
 refine pBoundVars.ir.of rfl ?_
 rw [tRule_sz] at h
 have htm := take_min r.2.2.1 n
 have hLs := listSize_take_le tCond r.2.2.1 n.toNat
 have hLl : (r.2.2.1.take n.toNat).length ≤ r.2.2.1.length := by rw [List.length_take]; omega
 rw [show bvF r.2.2.1 n.toNat = insAll blt (fm bvC (r.2.2.1.take n.toNat)) from rfl]
 generalize hL : r.2.2.1.take n.toNat = L at htm hLs hLl
 repeat' first
  | (conv => whnf
     first | refine Need.mk rfl ?_ | refine Cut.map (fun _ => rfl) ?_ ?_)
 ·intro _
  simp only [length_oldLL, List.length_map]
  show (0 : Int) ≤ 0 ∧ (0 : Int) ≤ _ ∧ _
  omega
 refine ALoop.mk Nat (fun i => ⟨[(5, .list (some 0) (strs (fm bvC (L.take i)))), (17, .list none (rows tCond L)), (18, .val (.int .i64 L.length)), (19, .val (.int .i64 i))], [.cells .var (oldL (tRule.q r))], [(9, 1, (fm bvC (L.take i)).length)]⟩) (fun i => i ≤ L.length) (fun i => L.length - i) ⟨0, Nat.zero_le _, ?_⟩ (fun i hi => ?_)
 ·repeat' first
   | exact trivial | refine wl_ ?_ ?_ ?_ ?_ | refine And.intro ?_ ?_ | exact ble_ | refine fr1 ?_ | refine AV.int_congr ?_ | refine AV.list_congr ?_ | (apply rfl)
  ·show oldLL (List.map tCond.q (List.drop (0 : Int).toNat _)) = _
   rw [length_oldLL, List.length_map, htm]; rfl
  ·show ((oldLL (List.map tCond.q (List.drop (0 : Int).toNat _))).length : Int) = _
   rw [length_oldLL, length_oldLL, List.length_map, List.length_map, htm]
 have hl := fm_lenT tCond bvC bvC_len L i
 by_cases hi' : i < L.length
 rotate_left
 ·rw [show fm bvC L = fm bvC (L.take i) by rw [List.take_of_length_le (by omega)]]
  repeat' first
   | (conv => whnf
      first | refine Need.mk rfl ?_ | refine Fork.decN ?_ | refine Final.mk rfl rfl | refine ACall.mkStrs _ _ (pSortedTexts.ret _ ?_) (by repeat' first | exact SeesL.nil | refine SeesL.cons ?_ ?_ | exact SeesB.of0 (Sees0.val _) | exact SeesB.of0 (Sees0.str _) | exact SeesB.of0 (Sees0.olds _ _) | exact SeesB.of0 (Sees0.old _) | exact SeesB.of0 (Sees0.oldagg _) | exact SeesB.of0 Sees0.nil | exact Sees0.val _ | exact Sees0.str _ | exact Sees0.olds _ _ | exact Sees0.old _ | exact Sees0.oldagg _ | exact Sees0.nil | exact SeesB.of0 (Sees0.any _) | assumption | exact sees_gv _ _ _ (by assumption) (by first | assumption | exact BoxIn.last _ _ | exact BoxIn.more (BoxIn.last _ _) _) | refine SeesB.agg ?_ | refine Sees0.agg ?_ | exact SeesB.of0 (Sees0.clo SeesL.nil SeesL.nil) | exact Sees0.clo SeesL.nil SeesL.nil | exact SeesB.of0 (Sees0.list rfl) | exact Sees0.list rfl) ?_)
  omega
 have hc := cond_le hi'
 have hz := tCond_sz (L.getD i default)
 have hp := tCond_pat (L.getD i default)
 have hstep := fm_take default bvC hi'
 have hl1 := fm_lenT tCond bvC bvC_len L (i + 1)
 rw [hstep, List.length_append] at hl1
 by_cases hk1 : (L.getD i default).1 = 1
 rotate_left
 ·rw [bvC_no hk1, List.append_nil] at hstep
  repeat' first
   | (conv => whnf
      first | refine Need.mk rfl ?_ | refine Need.mk ⟨rfl, Nat.le_of_ble_eq_true rfl⟩ ?_ | refine nb_ ?_ | refine Ix.mapN (fun _ => rfl) ?_ | refine Fork.decY ?_ | refine Fork.decN ?_ | refine Round.mk ?_)
  refine ⟨i + 1, by omega, ?_, by omega⟩
  repeat' first
   | exact trivial | refine wr_ ?_ ?_ ?_ ?_ | refine And.intro ?_ ?_ | with_reducible rfl | exact ble_ | refine fr1 ?_ | refine AV.int_congr ?_ | refine AV.list_congr ?_ | (apply rfl)
  ·rw [hstep]
  ·rw [wrap64 (by omega) (by omega)]; rfl
  ·rw [hstep]
 have hvo := pVarsOf.own (L.getD i default).2.1 (by omega)
 have hok := ok_strT (insAll blt (vs (L.getD i default).2.1.2))
 rw [← bvC_yes hk1] at hvo hok
 repeat' first
  | (conv => whnf
     first | refine Need.mk rfl ?_ | refine Need.mk ⟨rfl, Nat.le_of_ble_eq_true rfl⟩ ?_ | refine nb_ ?_ | refine Need.finN ?_ | refine Need.mk ?_ ?_ | refine Ix.mapN (fun _ => rfl) ?_ | refine Fork.decY ?_ | refine Round.mk ?_ | refine ACall.oldA _ _ (hvo) ?_)
 ·simp
 ·exact strs_sz _
 ·refine ⟨i + 1, by omega, ?_, by omega⟩
  repeat' first
   | exact trivial | refine wr_ ?_ ?_ ?_ ?_ | refine And.intro ?_ ?_ | with_reducible rfl | exact ble_ | refine fr1 ?_ | refine AV.int_congr ?_ | refine AV.list_congr ?_ | (apply rfl)
  ·rw [hstep, strs_append] <;> rfl
  ·rw [wrap64 (by omega) (by omega)]; rfl
  ·show (strs _).length + (strs (bvC (L.getD i default))).length = _
   rw [hstep, length_strs, length_strs, List.length_append]
theorem pvarsOfConds.ret (l : List VCond) (h : tConds.size l ≤ 1048576) : pvarsOfConds.Ret [.list none (rows tCond l)] (.list (some 1) (strs (cvsF l))) [(9, 1, (fm cvC l).length), (9, 1, (cvsF l).length)] := by
 refine pvarsOfConds.ir.of rfl ?_
 rw [tConds_sz] at h
 repeat' first
  | (conv => whnf
     first | refine Need.mk rfl ?_)
 refine ALoop.mk Nat (fun i => ⟨[(3, .list (some 0) (strs (fm cvC (l.take i)))), (7, .list none (rows tCond l)), (8, .val (.int .i64 l.length)), (9, .val (.int .i64 i))], [], [(9, 1, (fm cvC (l.take i)).length)]⟩) (fun i => i ≤ l.length) (fun i => l.length - i) ⟨0, Nat.zero_le _, ?_⟩ (fun i hi => ?_)
 ·repeat' first
   | exact trivial | refine wl_ ?_ ?_ ?_ ?_ | refine And.intro ?_ ?_ | with_reducible rfl | exact ble_ | refine fr1 ?_ | refine AV.int_congr ?_ | refine AV.list_congr ?_ | (apply rfl)
  simp
 have hl := fm_lenT tCond cvC cvC_len l i
 by_cases hi' : i < l.length
 rotate_left
 ·rw [show fm cvC l = fm cvC (l.take i) by rw [List.take_of_length_le (by omega)], show cvsF l = insAll blt (fm cvC (l.take i)) by rw [List.take_of_length_le (by omega)]; rfl]
  repeat' first
   | (conv => whnf
      first | refine Need.mk rfl ?_ | refine Fork.decN ?_ | refine Final.mk rfl rfl | refine ACall.mkStrs _ _ (pSortedTexts.ret _ ?_) (by repeat' first | exact SeesL.nil | refine SeesL.cons ?_ ?_ | exact SeesB.of0 (Sees0.val _) | exact SeesB.of0 (Sees0.str _) | exact SeesB.of0 (Sees0.olds _ _) | exact SeesB.of0 (Sees0.old _) | exact SeesB.of0 (Sees0.oldagg _) | exact SeesB.of0 Sees0.nil | exact Sees0.val _ | exact Sees0.str _ | exact Sees0.olds _ _ | exact Sees0.old _ | exact Sees0.oldagg _ | exact Sees0.nil | exact SeesB.of0 (Sees0.any _) | assumption | exact sees_gv _ _ _ (by assumption) (by first | assumption | exact BoxIn.last _ _ | exact BoxIn.more (BoxIn.last _ _) _) | refine SeesB.agg ?_ | refine Sees0.agg ?_ | exact SeesB.of0 (Sees0.clo SeesL.nil SeesL.nil) | exact Sees0.clo SeesL.nil SeesL.nil | exact SeesB.of0 (Sees0.list rfl) | exact Sees0.list rfl) ?_)
  omega
 have hc := cond_le hi'
 have hstep := fm_take default cvC hi'
 have hl1 := fm_lenT tCond cvC cvC_len l (i + 1)
 rw [hstep, List.length_append] at hl1
 have hvo := pCondVars.own (l.getD i default) (by omega)
 have hok := ok_strT (cvC (l.getD i default))
 rw [show insAll blt (vs (cvF (l.getD i default))) = cvC (l.getD i default) from rfl] at hvo
 repeat' first
  | (conv => whnf
     first | refine Need.mk rfl ?_ | refine Need.mk ⟨rfl, Nat.le_of_ble_eq_true rfl⟩ ?_ | refine nb_ ?_ | refine Need.finN ?_ | refine Need.mk ?_ ?_ | refine Ix.mapN (fun _ => rfl) ?_ | refine Fork.decY ?_ | refine Round.mk ?_ | refine ACall.oldA _ _ (hvo) ?_)
 ·simp
 ·exact strs_sz _
 ·refine ⟨i + 1, by omega, ?_, by omega⟩
  repeat' first
   | exact trivial | refine wr_ ?_ ?_ ?_ ?_ | refine And.intro ?_ ?_ | with_reducible rfl | exact ble_ | refine fr1 ?_ | refine AV.int_congr ?_ | refine AV.list_congr ?_ | (apply rfl)
  ·rw [hstep, strs_append] <;> rfl
  ·rw [wrap64 (by omega) (by omega)]; rfl
  ·show (strs _).length + (strs (cvC (l.getD i default))).length = _
   rw [hstep, length_strs, length_strs, List.length_append]
theorem pvarsOfConds.own (l : List VCond) (h : tConds.size l ≤ 1048576) : pvarsOfConds.Own [.list none (rows tCond l)] (strT (cvsF l)) := own_row rfl (pvarsOfConds.ret l h)
theorem cvs_len (l : List VCond) : (cvsF l).length ≤ listSize tCond l := Nat.le_trans (insAll_le _) (fm_len tCond cvC cvC_len l)
theorem pRuleVars.own (r : VRule) (h : tRule.size r ≤ 1048576) : pRuleVars.Own [.agg (oldL (tRule.q r))] (strT (rvF r.2.2.1 r.2.2.2)) := by
 refine own_row (k := 2) rfl (?_ : pRuleVars.Ret _ (.list (some 2) (strs (rvF r.2.2.1 r.2.2.2))) [(9, 1, (fm cvC r.2.2.1).length), (9, 1, (cvsF r.2.2.1 ++ fm avC r.2.2.2).length), (9, 1, (rvF r.2.2.1 r.2.2.2).length)])
 refine pRuleVars.ir.of rfl ?_
 have hrs := tRule_size r
 have htc : tConds.size r.2.2.1 ≤ 1048576 := by omega
 rw [tRule_sz] at h
 have hcl := cvs_len r.2.2.1
 have hrv : rvF r.2.2.1 r.2.2.2 = insAll blt (cvsF r.2.2.1 ++ fm avC r.2.2.2) := (insB_left _ _).symm
 rw [hrv]
 have hvc := pvarsOfConds.ret r.2.2.1 htc
 repeat' first
  | (conv => whnf
     first | refine ACall.mkLA _ _ _ _ (hvc) ?_)
 refine ALoop.mk Nat (fun i => ⟨[(3, .list (some 1) (strs (cvsF r.2.2.1 ++ fm avC (r.2.2.2.take i)))), (10, .list none (rows tAction r.2.2.2)), (11, .val (.int .i64 r.2.2.2.length)), (12, .val (.int .i64 i))], [.cells .var (oldL (tRule.q r))], [(9, 1, (fm cvC r.2.2.1).length), (9, 1, (cvsF r.2.2.1 ++ fm avC (r.2.2.2.take i)).length)]⟩) (fun i => i ≤ r.2.2.2.length) (fun i => r.2.2.2.length - i) ⟨0, Nat.zero_le _, ?_⟩ (fun i hi => ?_)
 ·repeat' first
   | exact trivial | refine wl_ ?_ ?_ ?_ ?_ | refine And.intro ?_ ?_ | with_reducible rfl | exact ble_ | refine fr2 ?_ ?_ | refine AV.int_congr ?_ | refine AV.list_congr ?_ | (apply rfl)
  ·simp [fm]; rfl
  ·simp
  ·simp [fm]
 have hl := fm_lenT tAction avC avC_len r.2.2.2 i
 by_cases hi' : i < r.2.2.2.length
 rotate_left
 ·rw [show fm avC r.2.2.2 = fm avC (r.2.2.2.take i) by rw [List.take_of_length_le (by omega)]]
  repeat' first
   | (conv => whnf
      first | refine Need.mk rfl ?_ | refine Fork.decN ?_ | refine Final.mk rfl rfl | refine ACall.mkStrs _ _ (pSortedTexts.ret _ ?_) (by repeat' first | exact SeesL.nil | refine SeesL.cons ?_ ?_ | exact SeesB.of0 (Sees0.val _) | exact SeesB.of0 (Sees0.str _) | exact SeesB.of0 (Sees0.olds _ _) | exact SeesB.of0 (Sees0.old _) | exact SeesB.of0 (Sees0.oldagg _) | exact SeesB.of0 Sees0.nil | exact Sees0.val _ | exact Sees0.str _ | exact Sees0.olds _ _ | exact Sees0.old _ | exact Sees0.oldagg _ | exact Sees0.nil | exact SeesB.of0 (Sees0.any _) | assumption | exact sees_gv _ _ _ (by assumption) (by first | assumption | exact BoxIn.last _ _ | exact BoxIn.more (BoxIn.last _ _) _) | refine SeesB.agg ?_ | refine Sees0.agg ?_ | exact SeesB.of0 (Sees0.clo SeesL.nil SeesL.nil) | exact Sees0.clo SeesL.nil SeesL.nil | exact SeesB.of0 (Sees0.list rfl) | exact Sees0.list rfl) ?_)
  rw [List.length_append]; omega
 have hc := act_le hi'
 have hp := tAction_pat (r.2.2.2.getD i default)
 have hstep := fm_take default avC hi'
 have hl1 := fm_lenT tAction avC avC_len r.2.2.2 (i + 1)
 rw [hstep, List.length_append] at hl1
 have hvo := pVarsOf.own (r.2.2.2.getD i default).2 (by omega)
 have hok := ok_strT (avC (r.2.2.2.getD i default))
 rw [show insAll blt (vs (r.2.2.2.getD i default).2.2) = avC (r.2.2.2.getD i default) from rfl] at hvo
 repeat' first
  | (conv => whnf
     first | refine Need.mk rfl ?_ | refine Need.mk ⟨rfl, Nat.le_of_ble_eq_true rfl⟩ ?_ | refine nb_ ?_ | refine Need.mk ?_ ?_ | refine Ix.mapN (fun _ => rfl) ?_ | refine Fork.decY ?_ | refine Round.mk ?_ | refine ACall.oldA _ _ (hvo) ?_)
 ·simp
 ·exact strs_sz _
 ·show ((strs _).length + (strs (avC (r.2.2.2.getD i default))).length) * 16 ≤ _ ∧ _ + (strs (avC (r.2.2.2.getD i default))).length ≤ _
  rw [length_strs, length_strs, List.length_append]; omega
 ·refine ⟨i + 1, by omega, ?_, by omega⟩
  repeat' first
   | exact trivial | refine wr_ ?_ ?_ ?_ ?_ | refine And.intro ?_ ?_ | with_reducible rfl | exact ble_ | refine fr2 ?_ ?_ | refine AV.int_congr ?_ | refine AV.list_congr ?_ | (apply rfl)
  ·rw [hstep, ← List.append_assoc, strs_append (_ ++ _)] <;> rfl
  ·rw [wrap64 (by omega) (by omega)]; rfl
  ·show (strs _).length + (strs (avC (r.2.2.2.getD i default))).length = _
   rw [hstep, length_strs, length_strs]; simp only [List.length_append]; omega
set_option maxHeartbeats 4000000 in
theorem sRuleVars.own (r : VRule) (h : tRule.size r ≤ 1048576) : sRuleVars.Own [.agg (oldL (tRule.q r))] (strT (rvF r.2.2.1 r.2.2.2)) := by
 refine Abs.IrAt.ownP sRuleVars.ir rfl ?_
 rw [tRule_sz] at h
 have hcl := fm_len tCond cvC cvC_len r.2.2.1
 repeat' first
  | (conv => whnf
     first | refine Need.mk rfl ?_)
 refine ALoop.mk (Nat × Nat × Fr) (fun a => ⟨[(1, .bptr 0 0), (3, .list (some a.2.1) (strs (insAll blt (fm cvC (r.2.2.1.take a.1))))), (4, .val (.int .i64 a.1))], [.cells .var (oldL (tRule.q r))], a.2.2⟩) (fun a => a.1 ≤ r.2.2.1.length ∧ a.2.2[a.2.1]? = some (9, 1, (insAll blt (fm cvC (r.2.2.1.take a.1))).length)) (fun a => r.2.2.1.length - a.1) ⟨(0, 0, [(9, 1, 0)]), ⟨Nat.zero_le _, rfl⟩, ?_⟩ (fun a ha => ?_)
 ·repeat' first
   | exact trivial | refine wl_ ?_ ?_ ?_ ?_ | refine And.intro ?_ ?_ | exact ble_ | refine fr1 ?_ | refine AV.int_congr ?_ | refine AV.list_congr ?_ | (apply rfl)
 obtain ⟨hi, hF⟩ := ha
 have hl := fm_lenT tCond cvC cvC_len r.2.2.1 a.1
 by_cases hi' : a.1 < r.2.2.1.length
 ·have hc := cond_le hi'
  have hstep := fm_take default cvC hi'
  have hl1 := fm_lenT tCond cvC cvC_len r.2.2.1 (a.1 + 1)
  rw [hstep, List.length_append] at hl1
  have hvo := sCondVars.own (r.2.2.1.getD a.1 default) (by omega)
  have hok := ok_strT (cvC (r.2.2.1.getD a.1 default))
  rw [show insAll blt (vs (cvF (r.2.2.1.getD a.1 default))) = cvC (r.2.2.1.getD a.1 default) from rfl] at hvo
  repeat' first
   | (conv => whnf
      first | refine Need.mk rfl ?_ | refine nb_ ?_ | refine Ix.mapN (fun _ => rfl) ?_ | refine Fork.decY ?_ | refine ACall.oldA _ _ (hvo) ?_)
  refine ALoop.mk (Nat × Nat × Fr) (fun c => ⟨[(1, .bptr 0 0), (3, .list (some c.2.1) (strs (insAll blt (fm cvC (r.2.2.1.take a.1) ++ (cvC (r.2.2.1.getD a.1 default)).take c.1)))), (4, .val (.int .i64 a.1)), (5, .list none (strs (cvC (r.2.2.1.getD a.1 default)))), (6, .val (.int .i64 c.1))], [.cells .var (oldL (tRule.q r))], c.2.2⟩) (fun c => c.1 ≤ (cvC (r.2.2.1.getD a.1 default)).length ∧ c.2.2[c.2.1]? = some (9, 1, (insAll blt (fm cvC (r.2.2.1.take a.1) ++ (cvC (r.2.2.1.getD a.1 default)).take c.1)).length)) (fun c => (cvC (r.2.2.1.getD a.1 default)).length - c.1) ⟨(0, a.2.1, a.2.2), ⟨Nat.zero_le _, by rw [List.take_zero, List.append_nil]; exact hF⟩, ?_⟩ (fun c hcc => ?_)
  ·repeat' first
    | exact trivial | refine wl_ ?_ ?_ ?_ ?_ | refine And.intro ?_ ?_ | with_reducible rfl | exact ble_ | refine AV.int_congr ?_ | refine AV.list_congr ?_ | (apply rfl)
   show strs _ = strs (insAll blt (fm cvC (r.2.2.1.take a.1) ++ List.take 0 _))
   rw [List.take_zero, List.append_nil]
  obtain ⟨hk, hG⟩ := hcc
  by_cases hk' : c.1 < (cvC (r.2.2.1.getD a.1 default)).length
  rotate_left
  ·rw [List.take_of_length_le (show (cvC (r.2.2.1.getD a.1 default)).length ≤ c.1 by omega), ← hstep] at hG
   repeat' first
    | (conv => whnf
       first | refine Need.mk rfl ?_ | refine Fork.decN ?_ | refine Round.mk ?_)
   refine ⟨(a.1 + 1, c.2.1, c.2.2), ⟨by omega, hG⟩, ?_, by omega⟩
   repeat' first
    | exact trivial | refine wl_ ?_ ?_ ?_ ?_ | refine And.intro ?_ ?_ | with_reducible rfl | exact ble_ | refine AV.int_congr ?_ | refine AV.list_congr ?_ | (apply rfl)
   ·rw [List.take_of_length_le (show (cvC (r.2.2.1.getD a.1 default)).length ≤ c.1 by omega), ← hstep]
   ·rw [wrap64 (by omega) (by omega)]; rfl
  have hst := put_step (m := fm cvC (r.2.2.1.take a.1)) hk'
  have hle := ins_app_le (fm cvC (r.2.2.1.take a.1)) (cvC (r.2.2.1.getD a.1 default)) c.1
  repeat' first
   | (conv => whnf
      first | refine Need.mk rfl ?_ | refine Ix.strsN rfl ?_ | refine Fork.decY ?_ | refine Round.mk ?_ | refine ACall.mkStrs _ _ (sPut.ret _ _ ?_) (by repeat' first | exact SeesL.nil | refine SeesL.cons ?_ ?_ | exact SeesB.of0 (Sees0.val _) | exact SeesB.of0 (Sees0.str _) | exact SeesB.of0 (Sees0.olds _ _) | exact SeesB.of0 (Sees0.old _) | exact SeesB.of0 (Sees0.oldagg _) | exact SeesB.of0 Sees0.nil | exact Sees0.val _ | exact Sees0.str _ | exact Sees0.olds _ _ | exact Sees0.old _ | exact Sees0.oldagg _ | exact Sees0.nil | exact SeesB.of0 (Sees0.any _) | assumption | exact sees_gv _ _ _ (by assumption) (by first | assumption | exact BoxIn.last _ _ | exact BoxIn.more (BoxIn.last _ _) _) | refine SeesB.agg ?_ | refine Sees0.agg ?_ | exact SeesB.of0 (Sees0.clo SeesL.nil SeesL.nil) | exact Sees0.clo SeesL.nil SeesL.nil | exact SeesB.of0 (Sees0.list rfl) | exact Sees0.list rfl) ?_)
  ·omega
  refine ⟨(c.1 + 1, c.2.2.length, c.2.2 ++ [(9, 1, (insAll blt (fm cvC (r.2.2.1.take a.1) ++ (cvC (r.2.2.1.getD a.1 default)).take (c.1 + 1))).length)]), ⟨by omega, by simp⟩, ?_, by omega⟩
  repeat' first
   | exact trivial | refine wl_ ?_ ?_ ?_ ?_ | refine And.intro ?_ ?_ | with_reducible rfl | exact ble_ | refine AV.int_congr ?_ | refine AV.list_congr ?_ | (apply rfl)
  ·show strs _ = strs (insAll blt (fm cvC (r.2.2.1.take a.1) ++ (cvC (r.2.2.1.getD a.1 default)).take (c.1 + 1)))
   rw [hst, Int.toNat_natCast] <;> rfl
  ·rw [wrap64 (by omega) (by omega)]; rfl
  ·show c.2.2 ++ [(9, 1, (ins blt ((cvC (r.2.2.1.getD a.1 default)).getD c.1 []) false (insAll blt (fm cvC (r.2.2.1.take a.1) ++ (cvC (r.2.2.1.getD a.1 default)).take c.1))).length)] = c.2.2 ++ [_]
   rw [hst]
 have e0 : r.2.2.1.take a.1 = r.2.2.1 := List.take_of_length_le (by omega)
 rw [e0] at hF
 repeat' first
  | (conv => whnf
     first | refine Need.mk rfl ?_ | refine Fork.decN ?_)
 refine ALoop.mk (Nat × Nat × Fr) (fun a => ⟨[(1, .bptr 0 0), (3, .list (some a.2.1) (strs (insAll blt (fm cvC r.2.2.1 ++ fm avC (r.2.2.2.take a.1))))), (7, .val (.int .i64 a.1))], [.cells .var (oldL (tRule.q r))], a.2.2⟩) (fun a => a.1 ≤ r.2.2.2.length ∧ a.2.2[a.2.1]? = some (9, 1, (insAll blt (fm cvC r.2.2.1 ++ fm avC (r.2.2.2.take a.1))).length)) (fun a => r.2.2.2.length - a.1) ⟨(0, a.2.1, a.2.2), ⟨Nat.zero_le _, by rw [List.take_zero, show fm avC [] = [] from rfl, List.append_nil]; exact hF⟩, ?_⟩ (fun b hb => ?_)
 ·repeat' first
   | exact trivial | refine wl_ ?_ ?_ ?_ ?_ | refine And.intro ?_ ?_ | with_reducible rfl | exact ble_ | refine AV.int_congr ?_ | refine AV.list_congr ?_ | (apply rfl)
  rw [e0]
  show strs _ = strs (insAll blt (fm cvC r.2.2.1 ++ fm avC (List.take 0 _)))
  rw [List.take_zero, show fm avC [] = [] from rfl, List.append_nil]
 clear hi hF hi' hl e0
 obtain ⟨hi, hF⟩ := hb
 have hl := fm_lenT tAction avC avC_len r.2.2.2 b.1
 by_cases hi' : b.1 < r.2.2.2.length
 rotate_left
 ·have e0 : r.2.2.2.take b.1 = r.2.2.2 := List.take_of_length_le (by omega)
  rw [e0] at hF
  repeat' first
   | (conv => whnf
      first | refine Need.mk rfl ?_ | refine Fork.decN ?_)
  rw [e0]
  exact own_anyP hF
 have hc := act_le hi'
 have hp := tAction_pat (r.2.2.2.getD b.1 default)
 have hstep := fm_take default avC hi'
 have hl1 := fm_lenT tAction avC avC_len r.2.2.2 (b.1 + 1)
 rw [hstep, List.length_append] at hl1
 have hvo := sVarsOf.own (r.2.2.2.getD b.1 default).2 (by omega)
 have hok := ok_strT (avC (r.2.2.2.getD b.1 default))
 rw [show insAll blt (vs (r.2.2.2.getD b.1 default).2.2) = avC (r.2.2.2.getD b.1 default) from rfl] at hvo
 repeat' first
  | (conv => whnf
     first | refine Need.mk rfl ?_ | refine nb_ ?_ | refine Ix.mapN (fun _ => rfl) ?_ | refine Fork.decY ?_ | refine ACall.oldA _ _ (hvo) ?_)
 refine ALoop.mk (Nat × Nat × Fr) (fun c => ⟨[(1, .bptr 0 0), (3, .list (some c.2.1) (strs (insAll blt ((fm cvC r.2.2.1 ++ fm avC (r.2.2.2.take b.1)) ++ (avC (r.2.2.2.getD b.1 default)).take c.1)))), (7, .val (.int .i64 b.1)), (8, .list none (strs (avC (r.2.2.2.getD b.1 default)))), (9, .val (.int .i64 c.1))], [.cells .var (oldL (tRule.q r))], c.2.2⟩) (fun c => c.1 ≤ (avC (r.2.2.2.getD b.1 default)).length ∧ c.2.2[c.2.1]? = some (9, 1, (insAll blt ((fm cvC r.2.2.1 ++ fm avC (r.2.2.2.take b.1)) ++ (avC (r.2.2.2.getD b.1 default)).take c.1)).length)) (fun c => (avC (r.2.2.2.getD b.1 default)).length - c.1) ⟨(0, b.2.1, b.2.2), ⟨Nat.zero_le _, by rw [List.take_zero, List.append_nil]; exact hF⟩, ?_⟩ (fun c hcc => ?_)
 ·repeat' first
   | exact trivial | refine wl_ ?_ ?_ ?_ ?_ | refine And.intro ?_ ?_ | with_reducible rfl | exact ble_ | refine AV.int_congr ?_ | refine AV.list_congr ?_ | (apply rfl)
  show strs _ = strs (insAll blt ((fm cvC r.2.2.1 ++ fm avC (r.2.2.2.take b.1)) ++ List.take 0 _))
  rw [List.take_zero, List.append_nil]
 obtain ⟨hk, hG⟩ := hcc
 by_cases hk' : c.1 < (avC (r.2.2.2.getD b.1 default)).length
 rotate_left
 ·rw [List.take_of_length_le (show (avC (r.2.2.2.getD b.1 default)).length ≤ c.1 by omega), List.append_assoc, ← hstep] at hG
  repeat' first
   | (conv => whnf
      first | refine Need.mk rfl ?_ | refine Fork.decN ?_ | refine Round.mk ?_)
  refine ⟨(b.1 + 1, c.2.1, c.2.2), ⟨by omega, hG⟩, ?_, by omega⟩
  repeat' first
   | exact trivial | refine wl_ ?_ ?_ ?_ ?_ | refine And.intro ?_ ?_ | with_reducible rfl | exact ble_ | refine AV.int_congr ?_ | refine AV.list_congr ?_ | (apply rfl)
  ·rw [List.take_of_length_le (show (avC (r.2.2.2.getD b.1 default)).length ≤ c.1 by omega), List.append_assoc, ← hstep]
  ·rw [wrap64 (by omega) (by omega)]; rfl
 have hst := put_step (m := fm cvC r.2.2.1 ++ fm avC (r.2.2.2.take b.1)) hk'
 have hle := ins_app_le (fm cvC r.2.2.1 ++ fm avC (r.2.2.2.take b.1)) (avC (r.2.2.2.getD b.1 default)) c.1
 rw [List.length_append] at hle
 repeat' first
  | (conv => whnf
     first | refine Need.mk rfl ?_ | refine Ix.strsN rfl ?_ | refine Fork.decY ?_ | refine Round.mk ?_ | refine ACall.mkStrs _ _ (sPut.ret _ _ ?_) (by repeat' first | exact SeesL.nil | refine SeesL.cons ?_ ?_ | exact SeesB.of0 (Sees0.val _) | exact SeesB.of0 (Sees0.str _) | exact SeesB.of0 (Sees0.olds _ _) | exact SeesB.of0 (Sees0.old _) | exact SeesB.of0 (Sees0.oldagg _) | exact SeesB.of0 Sees0.nil | exact Sees0.val _ | exact Sees0.str _ | exact Sees0.olds _ _ | exact Sees0.old _ | exact Sees0.oldagg _ | exact Sees0.nil | exact SeesB.of0 (Sees0.any _) | assumption | exact sees_gv _ _ _ (by assumption) (by first | assumption | exact BoxIn.last _ _ | exact BoxIn.more (BoxIn.last _ _) _) | refine SeesB.agg ?_ | refine Sees0.agg ?_ | exact SeesB.of0 (Sees0.clo SeesL.nil SeesL.nil) | exact Sees0.clo SeesL.nil SeesL.nil | exact SeesB.of0 (Sees0.list rfl) | exact Sees0.list rfl) ?_)
 ·omega
 refine ⟨(c.1 + 1, c.2.2.length, c.2.2 ++ [(9, 1, (insAll blt ((fm cvC r.2.2.1 ++ fm avC (r.2.2.2.take b.1)) ++ (avC (r.2.2.2.getD b.1 default)).take (c.1 + 1))).length)]), ⟨by omega, by simp⟩, ?_, by omega⟩
 repeat' first
  | exact trivial | refine wl_ ?_ ?_ ?_ ?_ | refine And.intro ?_ ?_ | with_reducible rfl | exact ble_ | refine AV.int_congr ?_ | refine AV.list_congr ?_ | (apply rfl)
 ·show strs _ = strs (insAll blt ((fm cvC r.2.2.1 ++ fm avC (r.2.2.2.take b.1)) ++ (avC (r.2.2.2.getD b.1 default)).take (c.1 + 1)))
  rw [hst, Int.toNat_natCast] <;> rfl
 ·rw [wrap64 (by omega) (by omega)]; rfl
 ·show c.2.2 ++ [(9, 1, (ins blt ((avC (r.2.2.2.getD b.1 default)).getD c.1 []) false (insAll blt ((fm cvC r.2.2.1 ++ fm avC (r.2.2.2.take b.1)) ++ (avC (r.2.2.2.getD b.1 default)).take c.1))).length)] = c.2.2 ++ [_]
  rw [hst]
open Abs
theorem allD_no {α : Type} [Inhabited α] {q : α → Bool} {x : List α} {i : Nat} (hi : i < x.length) (h : q (x.getD i default) = false) : x.all q = false := by
 rw [List.all_eq_false]
 exact ⟨_, getD_mem hi, by rw [h]; simp⟩
theorem allD_succ {α : Type} [Inhabited α] {q : α → Bool} {x : List α} {i : Nat} (hi : i < x.length) (h : (x.take i).all q = true) (hc : q (x.getD i default) = true) : (x.take (i + 1)).all q = true := by
 rw [take_succ' default hi, List.all_append, h]; simpa using hc
theorem pallC.ret (q : VCond → Bool) (F : Nat) (l : List VCond) (hq : ∀ x : VCond, tCond.size x ≤ 1048576 → Abs.Ret true Tryz.prog F [.agg (oldL (tCond.q x))] (.val (.bool (q x))) []) (h : tConds.size l ≤ 1048576) :
 pallC.Ret [.list none (rows tCond l), .clo F [] []] (.val (.bool (l.all q))) [] := by
 refine pallC.ir.of rfl ?_
 rw [tConds_sz] at h
 skip
 refine ALoop.mk Nat (fun i => ⟨[(1, .clo F [] []), (7, .list none (rows tCond l)), (8, .val (.int .i64 l.length)), (9, .val (.int .i64 i))], [], []⟩) (fun i => i ≤ l.length ∧ (l.take i).all q = true) (fun i => l.length - i) ⟨0, ⟨Nat.zero_le _, rfl⟩, ?_⟩ (fun i hi => ?_)
 ·repeat' first
   | exact trivial | refine wl_ ?_ ?_ ?_ ?_ | refine And.intro ?_ ?_ | with_reducible rfl | exact ble_ | refine AV.int_congr ?_ | refine AV.list_congr ?_ | (apply rfl)
  simp
 by_cases hi' : i < l.length
 rotate_left
 ·have := hi.2
  rw [List.take_of_length_le (by omega)] at this
  repeat' first
   | (conv => whnf
      first | refine Need.mk rfl ?_ | refine Fork.decN ?_ | refine FinVal.keep ?_ | refine Final.mk ?_ rfl)
   | refine AV.bool_congr ?_
  exact this.symm
 have hqi := hq (l.getD i default) (by have := cond_le hi'; omega)
 repeat' first
  | (conv => whnf
     first | refine Need.mk rfl ?_ | refine Need.mk ⟨rfl, Nat.le_of_ble_eq_true rfl⟩ ?_ | refine nb_ ?_ | refine Ix.mapN (fun _ => rfl) ?_ | refine Fork.decY ?_ | refine Fork.neg (fun _ => ?_) (fun _ => ?_) | refine Round.mk ?_ | refine FinVal.keep ?_ | refine Final.mk ?_ rfl | refine ACall.scalA _ _ (hqi) rfl ?_)
  | refine AV.bool_congr ?_
 ·rename_i h1
  exact (allD_no hi' h1).symm
 ·rename_i h1
  refine ⟨i + 1, ⟨by omega, allD_succ hi' hi.2 h1⟩, ?_, by omega⟩
  repeat' first
   | exact trivial | refine wr_ ?_ ?_ ?_ ?_ | refine And.intro ?_ ?_ | with_reducible rfl | exact ble_ | refine AV.int_congr ?_ | refine AV.list_congr ?_ | (apply rfl)
  rw [wrap64 (by omega) (by omega)]; rfl
theorem pallA0.ret (q : VAction → Bool) (F : Nat) (l : List VAction) (hq : ∀ x : VAction, tAction.size x ≤ 1048576 → Abs.Ret true Tryz.prog F [.agg (oldL (tAction.q x))] (.val (.bool (q x))) []) (h : tActions.size l ≤ 1048576) :
 pallA.Ret [.list none (rows tAction l), .clo F [] []] (.val (.bool (l.all q))) [] := by
 refine pallA.ir.of rfl ?_
 rw [tActions_sz] at h
 skip
 refine ALoop.mk Nat (fun i => ⟨[(1, .clo F [] []), (7, .list none (rows tAction l)), (8, .val (.int .i64 l.length)), (9, .val (.int .i64 i))], [], []⟩) (fun i => i ≤ l.length ∧ (l.take i).all q = true) (fun i => l.length - i) ⟨0, ⟨Nat.zero_le _, rfl⟩, ?_⟩ (fun i hi => ?_)
 ·repeat' first
   | exact trivial | refine wl_ ?_ ?_ ?_ ?_ | refine And.intro ?_ ?_ | with_reducible rfl | exact ble_ | refine AV.int_congr ?_ | refine AV.list_congr ?_ | (apply rfl)
  simp
 by_cases hi' : i < l.length
 rotate_left
 ·have := hi.2
  rw [List.take_of_length_le (by omega)] at this
  repeat' first
   | (conv => whnf
      first | refine Need.mk rfl ?_ | refine Fork.decN ?_ | refine FinVal.keep ?_ | refine Final.mk ?_ rfl)
   | refine AV.bool_congr ?_
  exact this.symm
 have hqi := hq (l.getD i default) (by have := act_le hi'; omega)
 repeat' first
  | (conv => whnf
     first | refine Need.mk rfl ?_ | refine Need.mk ⟨rfl, Nat.le_of_ble_eq_true rfl⟩ ?_ | refine nb_ ?_ | refine Ix.mapN (fun _ => rfl) ?_ | refine Fork.decY ?_ | refine Fork.neg (fun _ => ?_) (fun _ => ?_) | refine Round.mk ?_ | refine FinVal.keep ?_ | refine Final.mk ?_ rfl | refine ACall.scalC _ _ (hqi) rfl ?_)
  | refine AV.bool_congr ?_
 ·rename_i h1
  exact (allD_no hi' h1).symm
 ·rename_i h1
  refine ⟨i + 1, ⟨by omega, allD_succ hi' hi.2 h1⟩, ?_, by omega⟩
  repeat' first
   | exact trivial | refine wr_ ?_ ?_ ?_ ?_ | refine And.intro ?_ ?_ | with_reducible rfl | exact ble_ | refine AV.int_congr ?_ | refine AV.list_congr ?_ | (apply rfl)
  rw [wrap64 (by omega) (by omega)]; rfl
theorem pallA1.ret (q : VAction → Bool) (F : Nat) (b : List Str) (l : List VAction) (hq : ∀ x : VAction, tAction.size x ≤ 1048576 → Abs.Ret true Tryz.prog F [.agg (oldL (tAction.q x)), .rptr [.list none (strs b)]] (.val (.bool (q x))) []) (h : tActions.size l ≤ 1048576) :
 pallA.Ret [.list none (rows tAction l), .clo F [] [.rptr [.list none (strs b)]]] (.val (.bool (l.all q))) [] := by
 refine pallA.ir.of rfl ?_
 rw [tActions_sz] at h
 skip
 refine ALoop.mk Nat (fun i => ⟨[(1, .clo F [] [.rptr [.list none (strs b)]]), (7, .list none (rows tAction l)), (8, .val (.int .i64 l.length)), (9, .val (.int .i64 i))], [], []⟩) (fun i => i ≤ l.length ∧ (l.take i).all q = true) (fun i => l.length - i) ⟨0, ⟨Nat.zero_le _, rfl⟩, ?_⟩ (fun i hi => ?_)
 ·repeat' first
   | exact trivial | refine wl_ ?_ ?_ ?_ ?_ | refine And.intro ?_ ?_ | with_reducible rfl | exact ble_ | refine AV.int_congr ?_ | refine AV.list_congr ?_ | (apply rfl)
  simp
 by_cases hi' : i < l.length
 rotate_left
 ·have := hi.2
  rw [List.take_of_length_le (by omega)] at this
  repeat' first
   | (conv => whnf
      first | refine Need.mk rfl ?_ | refine Fork.decN ?_ | refine FinVal.keep ?_ | refine Final.mk ?_ rfl)
   | refine AV.bool_congr ?_
  exact this.symm
 have hqi := hq (l.getD i default) (by have := act_le hi'; omega)
 repeat' first
  | (conv => whnf
     first | refine Need.mk rfl ?_ | refine Need.mk ⟨rfl, Nat.le_of_ble_eq_true rfl⟩ ?_ | refine nb_ ?_ | refine Ix.mapN (fun _ => rfl) ?_ | refine Fork.decY ?_ | refine Fork.neg (fun _ => ?_) (fun _ => ?_) | refine Round.mk ?_ | refine FinVal.keep ?_ | refine Final.mk ?_ rfl | refine ACall.scalC _ _ (hqi) rfl ?_)
  | refine AV.bool_congr ?_
 ·rename_i h1
  exact (allD_no hi' h1).symm
 ·rename_i h1
  refine ⟨i + 1, ⟨by omega, allD_succ hi' hi.2 h1⟩, ?_, by omega⟩
  repeat' first
   | exact trivial | refine wr_ ?_ ?_ ?_ ?_ | refine And.intro ?_ ?_ | with_reducible rfl | exact ble_ | refine AV.int_congr ?_ | refine AV.list_congr ?_ | (apply rfl)
  rw [wrap64 (by omega) (by omega)]; rfl
theorem pallS.ret (q : Str → Bool) (F : Nat) (cs : List AV) (hcs : ∀ b, SeesL (SeesB b) cs cs) (l : List Str) (hq : ∀ x : Str, Abs.Ret true Tryz.prog F (.str x :: cs) (.val (.bool (q x))) []) (h : l.length ≤ 4194304) :
 pallS.Ret [.list none (strs l), .clo F [] cs] (.val (.bool (l.all q))) [] := by
 refine pallS.ir.of rfl ?_
 skip
 refine ALoop.mk Nat (fun i => ⟨[(1, .clo F [] cs), (7, .list none (strs l)), (8, .val (.int .i64 l.length)), (9, .val (.int .i64 i))], [], []⟩) (fun i => i ≤ l.length ∧ (l.take i).all q = true) (fun i => l.length - i) ⟨0, ⟨Nat.zero_le _, rfl⟩, ?_⟩ (fun i hi => ?_)
 ·repeat' first
   | exact trivial | refine wl_ ?_ ?_ ?_ ?_ | refine And.intro ?_ ?_ | with_reducible rfl | exact ble_ | refine AV.int_congr ?_ | refine AV.list_congr ?_ | (apply rfl)
  simp
 by_cases hi' : i < l.length
 rotate_left
 ·have := hi.2
  rw [List.take_of_length_le (by omega)] at this
  repeat' first
   | (conv => whnf
      first | refine Need.mk rfl ?_ | refine Fork.decN ?_ | refine FinVal.keep ?_ | refine Final.mk ?_ rfl)
   | refine AV.bool_congr ?_
  exact this.symm
 have hqi := hq (l.getD i [])
 repeat' first
  | (conv => whnf
     first | refine Need.mk rfl ?_ | refine Ix.strsN rfl ?_ | refine Fork.decY ?_)
 conv => whnf
 refine ACall.scal (.str (l.getD i []) :: cs) _ hqi rfl (.cons (SeesB.of0 (Sees0.str _)) (hcs _)) ?_
 repeat' first
  | (conv => whnf
     first | refine Need.mk rfl ?_ | refine Fork.neg (fun _ => ?_) (fun _ => ?_) | refine Round.mk ?_ | refine FinVal.keep ?_ | refine Final.mk ?_ rfl)
  | refine AV.bool_congr ?_
 ·rename_i h1
  exact (allQ_no hi' h1).symm
 ·rename_i h1
  refine ⟨i + 1, ⟨by omega, allQ_succ hi' hi.2 h1⟩, ?_, by omega⟩
  repeat' first
   | exact trivial | refine wl_ ?_ ?_ ?_ ?_ | refine And.intro ?_ ?_ | with_reducible rfl | exact ble_ | refine AV.int_congr ?_ | refine AV.list_congr ?_ | (apply rfl)
  rw [wrap64 (by omega) (by omega)]; rfl
theorem others_mem {α : Type} [Inhabited α] {l : List α} {i : Nat} {x : α} : x ∈ l.take i ++ l.drop (i + 1) ↔ ∃ k, k < l.length ∧ k ≠ i ∧ l.getD k default = x := by
 rw [List.mem_append, List.mem_take_iff_getElem, List.mem_drop_iff_getElem]
 constructor
 ·rintro (⟨k, hk, rfl⟩ | ⟨k, hk, rfl⟩)
  ·refine ⟨k, by omega, by omega, ?_⟩
   have : k < l.length := by omega
   simp [List.getD, this]
  ·refine ⟨i + 1 + k, by omega, by omega, ?_⟩
   have : i + 1 + k < l.length := by omega
   simp [List.getD, this]
 ·rintro ⟨k, hk, hne, rfl⟩
  rcases Nat.lt_or_gt_of_ne hne with h | h
  ·exact .inl ⟨k, by omega, by simp [List.getD, hk]⟩
  ·refine .inr ⟨k - (i + 1), by omega, ?_⟩
   have e : i + 1 + (k - (i + 1)) = k := by omega
   simp [List.getD, hk, e]
theorem else_cond {l : List VCond} {m : List VAction} {i k : Nat} {v : Str} (hk : k < l.length) (hne : k ≠ i) (h : v ∈ cvC (l.getD k default)) : elseF l m i v = true := by
 refine decide_eq_true (List.mem_append.2 (.inl (fm_mem.2 ⟨_, others_mem.2 ⟨k, hk, hne, rfl⟩, h⟩)))
theorem else_act {l : List VCond} {m : List VAction} {i k : Nat} {v : Str} (hk : k < m.length) (h : v ∈ avC (m.getD k default)) : elseF l m i v = true := by
 refine decide_eq_true (List.mem_append.2 (.inr (fm_mem.2 ⟨_, getD_mem hk, h⟩)))
theorem else_no {l : List VCond} {m : List VAction} {i : Nat} {v : Str} (h1 : ∀ k, k < l.length → k ≠ i → v ∉ cvC (l.getD k default)) (h2 : ∀ k, k < m.length → v ∉ avC (m.getD k default)) : elseF l m i v = false := by
 refine decide_eq_false fun h => ?_
 rcases List.mem_append.1 h with h | h
 ·obtain ⟨x, hx, hv⟩ := fm_mem.1 h
  obtain ⟨k, hk, hne, rfl⟩ := others_mem.1 hx
  exact h1 k hk hne hv
 ·obtain ⟨x, hx, hv⟩ := fm_mem.1 h
  obtain ⟨k, hk⟩ := List.getElem?_of_mem hx
  have e : m.getD k default = x := by simp [List.getD, hk]
  exact h2 k (getElem?_lt hk) (by rw [e]; exact hv)
theorem sElse.ret (r : VRule) (i : Nat) (v : Str) (h : tRule.size r ≤ 1048576) (hir : i < r.2.2.1.length) : sElse.Ret [.agg (oldL (tRule.q r)), .val (.int .i64 i), .str v] (.val (.bool (elseF r.2.2.1 r.2.2.2 i v))) [] := by
 refine sElse.ir.of rfl ?_
 rw [tRule_sz] at h
 skip
 refine ALoop.mk Nat (fun k => ⟨[(1, .val (.int .i64 i)), (2, .str v), (3, .bptr 0 0), (7, .val (.int .i64 k))], [.cells .var (oldL (tRule.q r))], []⟩) (fun k => k ≤ r.2.2.1.length ∧ ∀ k', k' < k → k' ≠ i → v ∉ cvC (r.2.2.1.getD k' default)) (fun k => r.2.2.1.length - k) ⟨0, ⟨Nat.zero_le _, fun k' h => by omega⟩, ?_⟩ (fun k hk => ?_)
 ·repeat' first
   | exact trivial | refine wl_ ?_ ?_ ?_ ?_ | refine And.intro ?_ ?_ | with_reducible rfl | exact ble_ | refine AV.int_congr ?_ | refine AV.str_congr ?_ | (apply rfl)
 by_cases hk' : k < r.2.2.1.length
 ·have hc := cond_le hk'
  have hvl := cvC_len (r.2.2.1.getD k default)
  have hvo := sCondVars.own (r.2.2.1.getD k default) (by omega)
  have hok := ok_strT (cvC (r.2.2.1.getD k default))
  rw [show insAll blt (vs (cvF (r.2.2.1.getD k default))) = cvC (r.2.2.1.getD k default) from rfl] at hvo
  repeat' first
   | (conv => whnf
      first | refine Need.mk (fun h => h) ?_ | refine Need.mk rfl ?_ | refine nb_ ?_ | refine Ix.mapN (fun _ => rfl) ?_ | refine Fork.decY ?_ | refine Fork.mk (fun _ => ?_) (fun _ => ?_) | refine Round.mk ?_ | refine FinVal.keep ?_ | refine Final.mk ?_ rfl | refine AGCall.oldA _ _ (fun hg => hvo) ?_ | refine AGCall.mkA _ _ (fun hg => sHasText.ret _ _ ?_) rfl ?_)
   | refine AV.bool_congr ?_
  ·omega
  ·rename_i h1
   simp only [Bool.and_eq_true, bne_iff_ne, ne_eq, decide_eq_true_eq] at h1
   exact (else_cond hk' (fun e => h1.1 (by rw [e])) h1.2).symm
  ·rename_i h1
   refine ⟨k + 1, ⟨by omega, fun k' h2 h3 h4 => ?_⟩, ?_, by omega⟩
   ·rcases Nat.lt_or_eq_of_le (Nat.le_of_lt_succ h2) with h5 | h5
    ·exact hk.2 k' h5 h3 h4
    ·subst h5
     have : ((k' : Int) != (i : Int)) = true := by rw [bne_iff_ne]; omega
     rw [this, decide_eq_true h4] at h1; cases h1
   ·repeat' first
     | exact trivial | refine wl_ ?_ ?_ ?_ ?_ | refine And.intro ?_ ?_ | with_reducible rfl | exact ble_ | refine AV.int_congr ?_ | refine AV.str_congr ?_ | (apply rfl)
    rw [wrap64 (by omega) (by omega)]; rfl
 have hall := hk.2
 repeat' first
  | (conv => whnf
     first | refine Need.mk rfl ?_ | refine Fork.decN ?_)
 refine ALoop.mk Nat (fun k => ⟨[(1, .val (.int .i64 i)), (2, .str v), (3, .bptr 0 0), (8, .val (.int .i64 k))], [.cells .var (oldL (tRule.q r))], []⟩) (fun k => k ≤ r.2.2.2.length ∧ ∀ k', k' < k → v ∉ avC (r.2.2.2.getD k' default)) (fun k => r.2.2.2.length - k) ⟨0, ⟨Nat.zero_le _, fun k' h => by omega⟩, ?_⟩ (fun q hq => ?_)
 ·repeat' first
   | exact trivial | refine wl_ ?_ ?_ ?_ ?_ | refine And.intro ?_ ?_ | with_reducible rfl | exact ble_ | refine AV.int_congr ?_ | refine AV.str_congr ?_ | (apply rfl)
 by_cases hq' : q < r.2.2.2.length
 ·have hc := act_le hq'
  have hp := tAction_pat (r.2.2.2.getD q default)
  have hvl := avC_len (r.2.2.2.getD q default)
  have hvo := sVarsOf.own (r.2.2.2.getD q default).2 (by omega)
  have hok := ok_strT (avC (r.2.2.2.getD q default))
  rw [show insAll blt (vs (r.2.2.2.getD q default).2.2) = avC (r.2.2.2.getD q default) from rfl] at hvo
  repeat' first
   | (conv => whnf
      first | refine Need.mk rfl ?_ | refine nb_ ?_ | refine Ix.mapN (fun _ => rfl) ?_ | refine Fork.decY ?_ | refine Fork.dec (fun _ => ?_) (fun _ => ?_) | refine Round.mk ?_ | refine FinVal.keep ?_ | refine Final.mk ?_ rfl | refine ACall.oldA _ _ (hvo) ?_ | refine ACall.scalA _ _ (sHasText.ret _ _ ?_) rfl ?_)
   | refine AV.bool_congr ?_
  ·omega
  ·rename_i h1
   exact (else_act hq' h1).symm
  ·rename_i h1
   refine ⟨q + 1, ⟨by omega, fun k' h2 h4 => ?_⟩, ?_, by omega⟩
   ·rcases Nat.lt_or_eq_of_le (Nat.le_of_lt_succ h2) with h5 | h5
    ·exact hq.2 k' h5 h4
    ·subst h5
     exact h1 h4
   ·repeat' first
     | exact trivial | refine wl_ ?_ ?_ ?_ ?_ | refine And.intro ?_ ?_ | with_reducible rfl | exact ble_ | refine AV.int_congr ?_ | refine AV.str_congr ?_ | (apply rfl)
    rw [wrap64 (by omega) (by omega)]; rfl
 repeat' first
  | (conv => whnf
     first | refine Need.mk rfl ?_ | refine Fork.decN ?_ | refine FinVal.keep ?_ | refine Final.mk ?_ rfl)
  | refine AV.bool_congr ?_
 exact (else_no (fun k' h1 h2 => hall k' (by omega) h2) (fun k' h1 => hq.2 k' (by omega))).symm
theorem okV_no {l : List VCond} {m : List VAction} {i : Nat} {x : VCond} {v : Str} (h : ((isTestF x && !decide (v ∈ bvF l i)) || (x.1 == 2 && !decide (v ∈ bvF l i) && elseF l m i v)) = true) : okV l m i x v = false := by
 unfold okV; revert h
 cases decide (v ∈ bvF l i) <;> cases isTestF x <;> cases (x.1 == 2) <;> cases elseF l m i v <;> simp
theorem okV_yes {l : List VCond} {m : List VAction} {i : Nat} {x : VCond} {v : Str} (h : ((isTestF x && !decide (v ∈ bvF l i)) || (x.1 == 2 && !decide (v ∈ bvF l i) && elseF l m i v)) = false) : okV l m i x v = true := by
 unfold okV; revert h
 cases decide (v ∈ bvF l i) <;> cases isTestF x <;> cases (x.1 == 2) <;> cases elseF l m i v <;> simp
theorem bvF_len (l : List VCond) (n : Nat) : (bvF l n).length ≤ listSize tCond l := Nat.le_trans (insAll_le _) (fm_lenT tCond bvC bvC_len l n)
theorem rvF_len (r : VRule) : (rvF r.2.2.1 r.2.2.2).length ≤ listSize tCond r.2.2.1 + listSize tAction r.2.2.2 := by
 refine Nat.le_trans (insAll_le _) ?_
 rw [List.length_append]
 have h1 := fm_len tCond cvC cvC_len r.2.2.1
 have h2 := fm_len tAction avC avC_len r.2.2.2
 omega
theorem head_iff (r : VRule) : (!nameF r.1 || !(decide (0 ≤ r.2.1) && decide (r.2.1 ≤ 9)) || !(decide (1 ≤ ((oldLL (r.2.2.1.map tCond.q)).length : Int)) && decide (((oldLL (r.2.2.1.map tCond.q)).length : Int) ≤ 4)) || !(decide (1 ≤ ((oldLL (r.2.2.2.map tAction.q)).length : Int)) && decide (((oldLL (r.2.2.2.map tAction.q)).length : Int) ≤ 2))) = false ↔
 nameF r.1 = true ∧ 0 ≤ r.2.1 ∧ r.2.1 ≤ 9 ∧ 1 ≤ r.2.2.1.length ∧ r.2.2.1.length ≤ 4 ∧ 1 ≤ r.2.2.2.length ∧ r.2.2.2.length ≤ 2 := by
 simp only [length_oldLL, List.length_map, Bool.or_eq_false_iff, Bool.not_eq_false', Bool.and_eq_true, decide_eq_true_eq]
 constructor
 ·rintro ⟨⟨⟨h1, h2, h3⟩, h4, h5⟩, h6, h7⟩
  exact ⟨h1, h2, h3, by omega, by omega, by omega, by omega⟩
 ·rintro ⟨h1, h2, h3, h4, h5, h6, h7⟩
  exact ⟨⟨⟨h1, h2, h3⟩, by omega, by omega⟩, by omega, by omega⟩
set_option maxHeartbeats 4000000 in
theorem sIsRule.ret (r : VRule) (h : tRule.size r ≤ 1048576) : sIsRule.Ret [.agg (oldL (tRule.q r))] (.val (.bool (isRuleF r))) [] := by
 refine sIsRule.ir.of rfl ?_
 have hrs := h
 rw [tRule_sz] at h
 have hbk := ok_strT (bvF r.2.2.1 r.2.2.1.length)
 have hbl := bvF_len r.2.2.1 r.2.2.1.length
 have hbx : sBoundVars.Own [.agg (oldL (tRule.q r)), .val (.int .i64 (oldLL (r.2.2.1.map tCond.q)).length)] (strT (bvF r.2.2.1 r.2.2.1.length)) := by
  rw [length_oldLL, List.length_map]
  have := sBoundVars.own r r.2.2.1.length hrs
  rwa [Int.toNat_natCast] at this
 have hif := head_iff r
 cases hb : (!nameF r.1 || !(decide (0 ≤ r.2.1) && decide (r.2.1 ≤ 9)) || !(decide (1 ≤ ((oldLL (r.2.2.1.map tCond.q)).length : Int)) && decide (((oldLL (r.2.2.1.map tCond.q)).length : Int) ≤ 4)) || !(decide (1 ≤ ((oldLL (r.2.2.2.map tAction.q)).length : Int)) && decide (((oldLL (r.2.2.2.map tAction.q)).length : Int) ≤ 2)))
 rotate_left
 ·rw [hb] at hif
  rw [rule_no (fun e => absurd (hif.2 e) (by simp))]
  repeat' first
   | (conv => whnf
      first | refine Need.mk (fun h => h) ?_ | refine Fork.yes (by assumption) ?_ | refine FinVal.keep ?_ | refine Final.mk rfl rfl | refine ACall.scalA _ _ (sIsName.ret _ ?_) rfl ?_ | refine AGCall.mkA _ _ (fun hg => l1In.ret _ _ _) rfl ?_)
  omega
 have h0 := hif.1 hb
 clear hif
 repeat' first
  | (conv => whnf
     first | refine Need.mk (fun h => h) ?_ | refine nb_ ?_ | refine Fork.no (by assumption) ?_ | refine ACall.scalA _ _ (sIsName.ret _ ?_) rfl ?_ | refine AGCall.mkA _ _ (fun hg => l1In.ret _ _ _) rfl ?_ | refine ACall.oldA _ _ (hbx) ?_)
 ·omega
 refine ALoop.mk Nat (fun i => ⟨[(1, .bptr 0 0), (3, .list none (strs (bvF r.2.2.1 r.2.2.1.length))), (4, .val (.int .i64 i))], [.cells .var (oldL (tRule.q r))], []⟩) (fun i => i ≤ r.2.2.1.length ∧ ∀ j, j < i → okC r.2.2.1 r.2.2.2 j (r.2.2.1.getD j default) = true) (fun i => r.2.2.1.length - i) ⟨0, ⟨Nat.zero_le _, fun j hj => by omega⟩, ?_⟩ (fun i hi => ?_)
 ·repeat' first
   | exact trivial | refine wl_ ?_ ?_ ?_ ?_ | refine And.intro ?_ ?_ | with_reducible rfl | exact ble_ | refine AV.int_congr ?_ | refine AV.list_congr ?_ | (apply rfl)
 by_cases hi' : i < r.2.2.1.length
 ·have hc := cond_le hi'
  have hvl := cvC_len (r.2.2.1.getD i default)
  have hvo := sCondVars.own (r.2.2.1.getD i default) (by omega)
  have hok := ok_strT (cvC (r.2.2.1.getD i default))
  rw [show insAll blt (vs (cvF (r.2.2.1.getD i default))) = cvC (r.2.2.1.getD i default) from rfl] at hvo
  have hbi := sBoundVars.own r i hrs
  rw [Int.toNat_natCast] at hbi
  have hbik := ok_strT (bvF r.2.2.1 i)
  have hbil := bvF_len r.2.2.1 i
  have hic := sIsCond.ret (r.2.2.1.getD i default) (by omega)
  have hit := sIsTest.ret (r.2.2.1.getD i default) (by omega)
  repeat' first
   | (conv => whnf
      first | refine Need.mk (fun h => h) ?_ | refine Need.mk rfl ?_ | refine Need.mk ⟨rfl, Nat.le_of_ble_eq_true rfl⟩ ?_ | refine nb_ ?_ | refine Ix.mapN (fun _ => rfl) ?_ | refine Fork.decY ?_ | refine Fork.mk (fun _ => ?_) (fun _ => ?_) | refine FinVal.keep ?_ | refine Final.mk ?_ rfl | refine ACall.scalA _ _ (hic) rfl ?_ | refine ACall.oldA _ _ (hbi) ?_ | refine ACall.oldA _ _ (hvo) ?_)
   | refine AV.bool_congr ?_
  ·rename_i h1
   rw [rule_noC hi']
   unfold okC
   revert h1
   have e : ((i : Int) == 0) = (i == 0) := by cases i <;> simp <;> omega
   rw [e, Int.toNat_natCast]
   cases isCondF (r.2.2.1.getD i default) <;> cases (i == 0) <;> simp
   intro h2 h3; exact absurd h3 h2
  rename_i h1
  have hcok : isCondF (r.2.2.1.getD i default) = true ∧ ((i == 0) = true → (r.2.2.1.getD i default).1 = 1) := by
   rw [Int.toNat_natCast] at h1
   have e : ((i : Int) == 0) = (i == 0) := by cases i <;> simp <;> omega
   rw [e] at h1
   revert h1
   cases isCondF (r.2.2.1.getD i default) <;> cases (i == 0) <;> simp
  refine ALoop.mk Nat (fun k => ⟨[(1, .bptr 0 0), (3, .list none (strs (bvF r.2.2.1 r.2.2.1.length))), (4, .val (.int .i64 i)), (5, .bptr 1 0), (6, .list none (strs (bvF r.2.2.1 i))), (7, .list none (strs (cvC (r.2.2.1.getD i default)))), (8, .val (.int .i64 k))], [.cells .var (oldL (tRule.q r)), .cells .var (oldL (tCond.q (r.2.2.1.getD i default)))], []⟩) (fun k => k ≤ (cvC (r.2.2.1.getD i default)).length ∧ ∀ j, j < k → okV r.2.2.1 r.2.2.2 i (r.2.2.1.getD i default) ((cvC (r.2.2.1.getD i default)).getD j []) = true) (fun k => (cvC (r.2.2.1.getD i default)).length - k) ⟨0, ⟨Nat.zero_le _, fun j hj => by omega⟩, ?_⟩ (fun k hk => ?_)
  ·repeat' first
    | exact trivial | refine wl_ ?_ ?_ ?_ ?_ | refine And.intro ?_ ?_ | with_reducible rfl | exact ble_ | refine AV.int_congr ?_ | refine AV.list_congr ?_ | (apply rfl)
  by_cases hk' : k < (cvC (r.2.2.1.getD i default)).length
  rotate_left
  ·have hov : (cvC (r.2.2.1.getD i default)).all (okV r.2.2.1 r.2.2.2 i (r.2.2.1.getD i default)) = true := List.all_eq_true.2 fun v hv => by
    obtain ⟨j, hj⟩ := List.getElem?_of_mem hv
    have := hk.2 j (by have := getElem?_lt hj; omega)
    have e : (cvC (r.2.2.1.getD i default)).getD j [] = v := by rw [List.getD_eq_getElem?_getD, hj]; rfl
    rwa [e] at this
   repeat' first
    | (conv => whnf
       first | refine Need.mk rfl ?_ | refine Fork.decN ?_ | refine Round.mk ?_)
   refine ⟨i + 1, ⟨by omega, fun j hj => ?_⟩, ?_, by omega⟩
   ·rcases Nat.lt_or_eq_of_le (Nat.le_of_lt_succ hj) with h5 | h5
    ·exact hi.2 j h5
    ·subst h5
     rw [okC, hcok.1, hov]
     have := hcok.2
     cases hz : (j == 0)
     ·rfl
     ·rw [this hz]; rfl
   ·repeat' first
     | exact trivial | refine wr_ ?_ ?_ ?_ ?_ | refine And.intro ?_ ?_ | with_reducible rfl | exact ble_ | refine AV.int_congr ?_ | refine AV.list_congr ?_ | (apply rfl)
    rw [wrap64 (by omega) (by omega)]; rfl
  have hse := sElse.ret r i ((cvC (r.2.2.1.getD i default)).getD k []) hrs hi'
  have hht := sHasText.ret (bvF r.2.2.1 i) ((cvC (r.2.2.1.getD i default)).getD k []) (by omega)
  repeat' first
   | (conv => whnf
      first | refine Need.mk (fun h => h) ?_ | refine Need.mk rfl ?_ | refine nb_ ?_ | refine Ix.strsN rfl ?_ | refine Fork.decY ?_ | refine Fork.mk (fun _ => ?_) (fun _ => ?_) | refine Round.mk ?_ | refine FinVal.keep ?_ | refine Final.mk ?_ rfl | refine AQCall.mkA _ _ (fun hg => hit) rfl ?_ | refine ACall.scalA _ _ (hht) rfl ?_ | refine AQCall.mkA _ _ (fun hg => hse) rfl ?_)
   | refine AV.bool_congr ?_
  ·rename_i h2
   have h3 := okV_no h2
   rw [rule_noC hi']
   have : (cvC (r.2.2.1.getD i default)).all (okV r.2.2.1 r.2.2.2 i (r.2.2.1.getD i default)) = false := allQ_no hk' h3
   rw [okC, this, Bool.and_false]
  ·rename_i h2
   have h3 := okV_yes h2
   refine ⟨k + 1, ⟨by omega, fun j hj => ?_⟩, ?_, by omega⟩
   ·rcases Nat.lt_or_eq_of_le (Nat.le_of_lt_succ hj) with h5 | h5
    ·exact hk.2 j h5
    ·subst h5; exact h3
   ·repeat' first
     | exact trivial | refine wl_ ?_ ?_ ?_ ?_ | refine And.intro ?_ ?_ | with_reducible rfl | exact ble_ | refine AV.int_congr ?_ | refine AV.list_congr ?_ | (apply rfl)
    rw [wrap64 (by omega) (by omega)]; rfl
 have hall := hi.2
 repeat' first
  | (conv => whnf
     first | refine Need.mk rfl ?_ | refine Fork.decN ?_)
 refine ALoop.mk Nat (fun q => ⟨[(1, .bptr 0 0), (3, .list none (strs (bvF r.2.2.1 r.2.2.1.length))), (10, .val (.int .i64 q))], [.cells .var (oldL (tRule.q r))], []⟩) (fun q => q ≤ r.2.2.2.length ∧ ∀ j, j < q → okA (bvF r.2.2.1 r.2.2.1.length) (r.2.2.2.getD j default) = true) (fun q => r.2.2.2.length - q) ⟨0, ⟨Nat.zero_le _, fun j hj => by omega⟩, ?_⟩ (fun q hq => ?_)
 ·repeat' first
   | exact trivial | refine wl_ ?_ ?_ ?_ ?_ | refine And.intro ?_ ?_ | with_reducible rfl | exact ble_ | refine AV.int_congr ?_ | refine AV.list_congr ?_ | (apply rfl)
 by_cases hq' : q < r.2.2.2.length
 rotate_left
 ·have hrv := sRuleVars.own r hrs
  have hrk := ok_strT (rvF r.2.2.1 r.2.2.2)
  have hy := rule_yes h0 (fun j hj => hall j (by omega)) (fun j hj => hq.2 j (by omega))
  repeat' first
   | (conv => whnf
      first | refine Need.mk rfl ?_ | refine nb_ ?_ | refine Fork.decN ?_ | refine FinVal.keep ?_ | refine Final.mk ?_ rfl | refine ACall.oldA _ _ (hrv) ?_)
   | refine AV.bool_congr ?_
  rw [hy, length_oldLL, List.length_map]
  exact decide_eq_decide.2 (by omega)
 have hc := act_le hq'
 have hp := tAction_pat (r.2.2.2.getD q default)
 have hvl := avC_len (r.2.2.2.getD q default)
 have hvo := sVarsOf.own (r.2.2.2.getD q default).2 (by omega)
 have hok := ok_strT (avC (r.2.2.2.getD q default))
 rw [show insAll blt (vs (r.2.2.2.getD q default).2.2) = avC (r.2.2.2.getD q default) from rfl] at hvo
 have hia := sIsAction.ret (r.2.2.2.getD q default) (by omega)
 repeat' first
  | (conv => whnf
     first | refine Need.mk rfl ?_ | refine nb_ ?_ | refine Ix.mapN (fun _ => rfl) ?_ | refine Fork.decY ?_ | refine Fork.neg (fun _ => ?_) (fun _ => ?_) | refine FinVal.keep ?_ | refine Final.mk ?_ rfl | refine ACall.scalC _ _ (hia) rfl ?_ | refine ACall.oldA _ _ (hvo) ?_)
  | refine AV.bool_congr ?_
 ·rename_i h1
  rw [rule_noA hq']
  rw [okA, h1]; rfl
 rename_i hact
 refine ALoop.mk Nat (fun k => ⟨[(1, .bptr 0 0), (3, .list none (strs (bvF r.2.2.1 r.2.2.1.length))), (10, .val (.int .i64 q)), (11, .list none (strs (avC (r.2.2.2.getD q default)))), (12, .val (.int .i64 k))], [.cells .var (oldL (tRule.q r))], []⟩) (fun k => k ≤ (avC (r.2.2.2.getD q default)).length ∧ ∀ j, j < k → (avC (r.2.2.2.getD q default)).getD j [] ∈ bvF r.2.2.1 r.2.2.1.length) (fun k => (avC (r.2.2.2.getD q default)).length - k) ⟨0, ⟨Nat.zero_le _, fun j hj => by omega⟩, ?_⟩ (fun k hk => ?_)
 ·repeat' first
   | exact trivial | refine wl_ ?_ ?_ ?_ ?_ | refine And.intro ?_ ?_ | with_reducible rfl | exact ble_ | refine AV.int_congr ?_ | refine AV.list_congr ?_ | (apply rfl)
 by_cases hk' : k < (avC (r.2.2.2.getD q default)).length
 rotate_left
 ·have hov : ((avC (r.2.2.2.getD q default)).all fun v => decide (v ∈ bvF r.2.2.1 r.2.2.1.length)) = true := List.all_eq_true.2 fun v hv => by
   obtain ⟨j, hj⟩ := List.getElem?_of_mem hv
   have := hk.2 j (by have := getElem?_lt hj; omega)
   have e : (avC (r.2.2.2.getD q default)).getD j [] = v := by rw [List.getD_eq_getElem?_getD, hj]; rfl
   rw [e] at this
   exact decide_eq_true this
  repeat' first
   | (conv => whnf
      first | refine Need.mk rfl ?_ | refine Fork.decN ?_ | refine Round.mk ?_)
  refine ⟨q + 1, ⟨by omega, fun j hj => ?_⟩, ?_, by omega⟩
  ·rcases Nat.lt_or_eq_of_le (Nat.le_of_lt_succ hj) with h5 | h5
   ·exact hq.2 j h5
   ·subst h5
    rw [okA, hact, hov]; rfl
  ·repeat' first
    | exact trivial | refine wl_ ?_ ?_ ?_ ?_ | refine And.intro ?_ ?_ | with_reducible rfl | exact ble_ | refine AV.int_congr ?_ | refine AV.list_congr ?_ | (apply rfl)
   rw [wrap64 (by omega) (by omega)]; rfl
 have hht := sHasText.ret (bvF r.2.2.1 r.2.2.1.length) ((avC (r.2.2.2.getD q default)).getD k []) (by omega)
 repeat' first
  | (conv => whnf
     first | refine Need.mk rfl ?_ | refine Ix.strsN rfl ?_ | refine Fork.decY ?_ | refine Fork.neg (fun _ => ?_) (fun _ => ?_) | refine Round.mk ?_ | refine FinVal.keep ?_ | refine Final.mk ?_ rfl | refine ACall.scalA _ _ (hht) rfl ?_)
  | refine AV.bool_congr ?_
 ·rename_i h1
  have h1 : (avC (r.2.2.2.getD q default)).getD k [] ∉ bvF r.2.2.1 r.2.2.1.length := by first | exact h1 | exact of_decide_eq_false h1
  rw [rule_noA hq']
  have : ((avC (r.2.2.2.getD q default)).all fun v => decide (v ∈ bvF r.2.2.1 r.2.2.1.length)) = false := allQ_no hk' (decide_eq_false h1)
  rw [okA, this, Bool.and_false]
 ·rename_i h1
  have h1 : (avC (r.2.2.2.getD q default)).getD k [] ∈ bvF r.2.2.1 r.2.2.1.length := by first | exact h1 | exact of_decide_eq_true h1
  refine ⟨k + 1, ⟨by omega, fun j hj => ?_⟩, ?_, by omega⟩
  ·rcases Nat.lt_or_eq_of_le (Nat.le_of_lt_succ hj) with h5 | h5
   ·exact hk.2 j h5
   ·subst h5; exact h1
  ·repeat' first
    | exact trivial | refine wl_ ?_ ?_ ?_ ?_ | refine And.intro ?_ ?_ | with_reducible rfl | exact ble_ | refine AV.int_congr ?_ | refine AV.list_congr ?_ | (apply rfl)
   rw [wrap64 (by omega) (by omega)]; rfl
end Go.Proofs.YtoindmahilbalaaGreat
namespace Go.Proofs.YtoindmahilbalaaGreat
open Abs Go.RowKit Go.Shelf
theorem slGrowC.ret (n : Nat) (hn : n ≤ 1048576) : slGrowC.Ret [.val (.slice none 0 0), .val (.int .i64 n)] (.list (some 0) []) [(116, 5, 0)] := by
 rw [slGrowC.Ret, Ret_eq]
 refine ⟨by kernel_rfl, fun w F vs hout hargs => ?_⟩
 obtain ⟨v0, v1, rfl⟩ : ∃ v0 v1, vs = #[v0, v1] := by
  have := hargs.1
  match vs, this with
  | ⟨[a, b]⟩, _ => exact ⟨a, b, rfl⟩
 obtain ⟨h0, h1⟩ := Both.cons.1 hargs
 obtain ⟨h1, _⟩ := Both.cons.1 h1
 cases h0
 cases h1
 rcases Nat.eq_zero_or_pos n with rfl | hpos
 ·refine (Any8.slices_Grow_room Tryz.growC none 0 0 0 w (by omega) (by omega) (by omega) (by omega)).mono ?_
  rintro e w' ⟨rfl, rfl⟩
  refine ⟨_, F, [none], [], rfl, Bel.refl _ _, fun _ _ => rfl, hout, rfl, fun k b h => ?_, fun k l b h => ?_, .list _ [] none 0 5 0 0 (fun _ _ => undef) (Nat.le_refl _) (fun h => absurd rfl h) (by simp) (fun h => absurd rfl h) (by simp) (by simp) (fun k hk => ?_)⟩
  ·cases k <;> simp at h
  ·cases k <;> simp at h
  ·cases hk
   exact ⟨_, 5, 0, rfl, Nat.le_refl _, fun _ => ⟨rfl, ⟨[], World.ownsRow_nil _ _ _ _⟩, rfl, fun b h => by cases h⟩⟩
 ·obtain ⟨el, ti, z, hu, hi, hz, hzs, hps, _, hel, hcz⟩ := goodElem_inv (P := Tryz.prog) (t := 31) (by kernel_rfl)
  have he : el = 116 := hel.symm.trans (by kernel_rfl)
  subst he
  have hsz : ti.size = 5 := hcz.symm.trans (by kernel_rfl)
  have hby : ti.bytes = 80 := by
   have h : bytesOf Tryz.prog 116 = ti.bytes := by unfold bytesOf; rw [hi]
   exact h.symm.trans (by kernel_rfl)
  have hzz : z.cells.size = 5 := hzs.trans hsz
  refine (Any8.slices_Grow_grow Tryz.growC ti z hi hz (by omega) none 0 0 n [] w (by omega) (by omega) (by rw [hby]; omega) (by omega) (by simp) (fun _ => rfl) (fun a h => by cases h)).mono ?_
  rintro e w' ⟨rfl, rfl⟩
  have hge := grownCap_ge w (0 + n) 0 116
  have hle := grownCap_le_maxLen w (0 + n) 0 116 (by unfold maxLen; omega)
  have hG : grownCap w (0 + n) 0 (Tryz.growC_ren.t 25) = grownCap w (0 + n) 0 116 := rfl
  rw [hG]
  generalize grownCap w (0 + n) 0 116 = G at hge hle
  refine ⟨_, F, [some w.heap.size], [], rfl, ((Bel.refl _ w).drew).alloc (Nat.le_refl _) _, fun _ _ => rfl, fun b hb => hout b ?_, rfl, fun k b h => ?_, fun k l b h1 h2 => ?_, .list _ [] (some ⟨w.heap.size, 0, none⟩) G 5 w.heap.size 0 (fun _ _ => undef) (Nat.zero_le _) (fun h => absurd rfl h) (by simp) (fun h => absurd rfl h) (by simp) (by simp) (fun k hk => ?_)⟩
  ·have : w.heap.size + 1 ≤ b := by simpa using hb
   omega
  ·cases k with
   | zero => simp at h; subst h; exact ⟨Nat.le_refl _, by simp⟩
   | succ k => simp at h
  ·cases k <;> cases l <;> simp at h1 h2
   rfl
  ·cases hk
   refine ⟨_, 5, 0, rfl, Nat.le_refl _, fun _ => ⟨rfl, ⟨[], rfl, Or.inr ⟨w.heap.size, G, _, rfl, Nat.le_refl _, heap_alloc_new w.drew _, Nat.zero_le _, hle, ?_, by simp⟩⟩, rfl, fun b h => ?_⟩⟩
   ·simp [Builtin.zeroCells, hzz]; omega
   ·cases h; rw [hout _ (Nat.le_refl _)]; rfl
def sumC (a b : List VCond) (i : Nat) : Nat := if i = 0 then 0 else if i = 1 then a.length else a.length + b.length
def catC (a b : List VCond) (i : Nat) : List VCond := if i = 0 then [] else if i = 1 then a else a ++ b
theorem rows_app {α : Type} (T : Ty α) (a b : List α) : rows T (a ++ b) = rows T a ++ rows T b := by rw [rows, List.map_append, oldLL_append]; rfl
theorem slConcatC2.ret (a b : List VCond) (hab : a.length + b.length ≤ 1048576) : slConcatC.Ret [.list none [[.list none (rows tCond a)], [.list none (rows tCond b)]]] (.list (some 0) (rows tCond (a ++ b))) [(116, 5, (a ++ b).length)] := by
 refine slConcatC.ir.of rfl ?_
 have e1 : IntKind.i64.wrap ((0 : Int) + (rows tCond a).length) = a.length := by rw [length_rows, wrap64 (by omega) (by omega)]; omega
 have e2 : IntKind.i64.wrap ((a.length : Int) + (rows tCond b).length) = ((a.length + b.length : Nat) : Int) := by rw [length_rows, wrap64 (by omega) (by omega)]; omega
 skip
 refine ALoop.mk Nat (fun i => ⟨[(0, .list none [[.list none (rows tCond a)], [.list none (rows tCond b)]]), (3, .val (.int .i64 (sumC a b i))), (9, .list none [[.list none (rows tCond a)], [.list none (rows tCond b)]]), (10, .val (.int .i64 2)), (11, .val (.int .i64 i))], [], []⟩) (fun i => i ≤ 2) (fun i => 2 - i) ⟨0, by omega, ?_⟩ (fun i hi => ?_)
 ·repeat' first
   | exact trivial | refine wl_ ?_ ?_ ?_ ?_ | refine And.intro ?_ ?_ | with_reducible rfl | exact ble_ | refine AV.int_congr ?_ | refine AV.list_congr ?_ | (apply rfl)
 have hc : i = 0 ∨ i = 1 ∨ i = 2 := by omega
 rcases hc with rfl | rfl | rfl
 ·have hix : (0 : Int) ≤ (0 : Nat) ∧ [[AV.list none (rows tCond a)], [AV.list none (rows tCond b)]][((0 : Nat) : Int).toNat]? = some [AV.list none (rows tCond a)] ∧ 1 = 1 := ⟨by omega, rfl, rfl⟩
  repeat' first
   | (conv => whnf
      first | refine Need.mk rfl ?_ | refine Ix.mk _ (fun _ => hix) ?_ | refine Fork.decYes (by omega) ?_ | refine Fork.dec (fun _ => ?_) (fun _ => ?_) | refine Round.mk ?_)
  ·rename_i h
   have h : IntKind.i64.wrap ((0 : Int) + (rows tCond a).length) < 0 := h
   rw [e1] at h; omega
  ·refine ⟨1, by omega, ?_, by omega⟩
   repeat' first
    | exact trivial | refine wl_ ?_ ?_ ?_ ?_ | refine And.intro ?_ ?_ | with_reducible rfl | exact ble_ | refine AV.int_congr ?_ | refine AV.list_congr ?_ | (apply rfl)
   exact e1
 ·have hix : (0 : Int) ≤ (1 : Nat) ∧ [[AV.list none (rows tCond a)], [AV.list none (rows tCond b)]][((1 : Nat) : Int).toNat]? = some [AV.list none (rows tCond b)] ∧ 1 = 1 := ⟨by omega, rfl, rfl⟩
  repeat' first
   | (conv => whnf
      first | refine Need.mk rfl ?_ | refine Ix.mk _ (fun _ => hix) ?_ | refine Fork.decYes (by omega) ?_ | refine Fork.dec (fun _ => ?_) (fun _ => ?_) | refine Round.mk ?_)
  ·rename_i h
   have h : IntKind.i64.wrap ((a.length : Int) + (rows tCond b).length) < 0 := h
   rw [e2] at h; omega
  ·refine ⟨2, by omega, ?_, by omega⟩
   repeat' first
    | exact trivial | refine wl_ ?_ ?_ ?_ ?_ | refine And.intro ?_ ?_ | with_reducible rfl | exact ble_ | refine AV.int_congr ?_ | refine AV.list_congr ?_ | (apply rfl)
   exact e2
 have hg : slGrowC.Ret [.val (.slice none 0 0), .val (.int .i64 (sumC a b 2))] (.list (some 0) []) [(116, 5, 0)] := slGrowC.ret (a.length + b.length) (by omega)
 repeat' first
  | (conv => whnf
     first | refine Need.mk rfl ?_ | refine Fork.decNo (by omega) ?_ | refine ACall.mkR _ _ _ (hg) ?_)
 refine ALoop.mk Nat (fun i => ⟨[(0, .list none [[.list none (rows tCond a)], [.list none (rows tCond b)]]), (6, .list (some 0) (rows tCond (catC a b i))), (25, .list none [[.list none (rows tCond a)], [.list none (rows tCond b)]]), (26, .val (.int .i64 2)), (27, .val (.int .i64 i))], [], [(116, 5, (catC a b i).length)]⟩) (fun i => i ≤ 2) (fun i => 2 - i) ⟨0, by omega, ?_⟩ (fun i hi => ?_)
 ·repeat' first
   | exact trivial | refine wl_ ?_ ?_ ?_ ?_ | refine And.intro ?_ ?_ | with_reducible rfl | exact ble_ | refine fr1 ?_ | refine AV.int_congr ?_ | refine AV.list_congr ?_ | (apply rfl)
 have hc : i = 0 ∨ i = 1 ∨ i = 2 := by omega
 rcases hc with rfl | rfl | rfl
 ·have hix : (0 : Int) ≤ (0 : Nat) ∧ [[AV.list none (rows tCond a)], [AV.list none (rows tCond b)]][((0 : Nat) : Int).toNat]? = some [AV.list none (rows tCond a)] ∧ 1 = 1 := ⟨by omega, rfl, rfl⟩
  repeat' first
   | (conv => whnf
      first | refine Need.mk rfl ?_ | refine Need.mk ?_ ?_ | refine Ix.mk _ (fun _ => hix) ?_ | refine Fork.decYes (by omega) ?_ | refine Round.mk ?_)
  ·exact rows_cut tCond a
  ·rw [length_rows, length_rows]; simp [catC]; omega
  ·refine ⟨1, by omega, ?_, by omega⟩
   repeat' first
    | exact trivial | refine wl_ ?_ ?_ ?_ ?_ | refine And.intro ?_ ?_ | with_reducible rfl | exact ble_ | refine fr1 ?_ | refine AV.int_congr ?_ | refine AV.list_congr ?_ | (apply rfl)
   show (rows tCond []).length + (rows tCond a).length = a.length
   simp
 ·have hix : (0 : Int) ≤ (1 : Nat) ∧ [[AV.list none (rows tCond a)], [AV.list none (rows tCond b)]][((1 : Nat) : Int).toNat]? = some [AV.list none (rows tCond b)] ∧ 1 = 1 := ⟨by omega, rfl, rfl⟩
  repeat' first
   | (conv => whnf
      first | refine Need.mk rfl ?_ | refine Need.mk ?_ ?_ | refine Ix.mk _ (fun _ => hix) ?_ | refine Fork.decYes (by omega) ?_ | refine Round.mk ?_)
  ·simp
  ·exact rows_cut tCond b
  ·rw [length_rows, length_rows]; simp [catC]; omega
  ·refine ⟨2, by omega, ?_, by omega⟩
   repeat' first
    | exact trivial | refine wl_ ?_ ?_ ?_ ?_ | refine And.intro ?_ ?_ | with_reducible rfl | exact ble_ | refine fr1 ?_ | refine AV.int_congr ?_ | refine AV.list_congr ?_ | (apply rfl)
   ·exact (rows_app tCond a b).symm
   ·show (rows tCond a).length + (rows tCond b).length = (a ++ b).length
    simp
 ·repeat' first
   | (conv => whnf
      first | refine Need.mk rfl ?_ | refine Fork.decNo (by omega) ?_ | refine Final.mk rfl rfl)
theorem Abs.Sees0.list2 (o : Option Nat) (a b : List (List Tr)) : Sees0 (.list o [[.list none (oldLL a)], [.list none (oldLL b)]]) (.list none [[.list none (oldLL a)], [.list none (oldLL b)]]) := Sees0.list (by
 show [[AV.list none (mapTLL noTok (oldLL a))], [AV.list none (mapTLL noTok (oldLL b))]] = _
 rw [mapTLL_old, mapTLL_old])
theorem Abs.ACall.mkL2 {C : Con} {lend : Bool} {f : Nat} {vs : List AV} {b : List ABox} {fr : Fr} {k : AV → List ABox → Fr → Prop} (ys : List AV) (i : Nat) (xs : List (List Tr)) (frs : Fr) (h : C.ret f ys (.list (some i) (oldLL xs)) frs)
 (hk : k (.list (some (i + fr.length)) (oldLL xs)) b (fr ++ frs)) (hv : SeesL Sees0 vs ys := by refine SeesL.cons ?_ SeesL.nil; exact Sees0.list2 _ _ _) : ACall C lend f vs b fr k := .mkL ys i xs frs h hv hk
theorem seesR (b : List Str) : ∀ bx, SeesL (SeesB bx) [AV.rptr [.list none (strs b)]] [.rptr [.list none (strs b)]] := fun _ => .cons (SeesB.of0 (Sees0.rptrL _)) .nil
theorem seesR2 (b c : List Str) : ∀ bx, SeesL (SeesB bx) [AV.rptr [.list none (strs b)], AV.rptr [.list none (strs c)]] [.rptr [.list none (strs b)], .rptr [.list none (strs c)]] := fun _ => .cons (SeesB.of0 (Sees0.rptrL _)) (.cons (SeesB.of0 (Sees0.rptrL _)) .nil)
theorem pamongClo.ret (s : Str) (b : List Str) (h : b.length ≤ 1048576) : pamongClo.Ret [.str s, .rptr [.list none (strs b)]] (.val (.bool (decide (s ∈ b)))) [] := by
 refine pamongClo.ir.of rfl ?_
 repeat' first
  | (conv => whnf
     first | refine FinVal.keep ?_ | refine Final.mk rfl rfl | refine ACall.scalA _ _ (slContains.ret _ _ ?_) rfl ?_)
 exact h
theorem pareAmong.ret (l b : List Str) (h : l.length ≤ 4194304) (hb : b.length ≤ 1048576) : pareAmong.Ret [.list none (strs l), .list none (strs b)] (.val (.bool (l.all fun v => decide (v ∈ b)))) [] := by
 refine pareAmong.ir.of rfl ?_
 have ha := pallS.ret (fun v => decide (v ∈ b)) _ _ (seesR b) l (fun x => pamongClo.ret x b hb) h
 repeat' first
  | (conv => whnf
     first | refine Need.mk ?_ ?_ | refine FinVal.keep ?_ | refine Final.mk rfl rfl | refine ACall.scalC _ _ (ha) rfl ?_)
 exact ⟨rfl, rfl⟩
theorem pmayClo.ret (s : Str) (b c : List Str) (hb : b.length ≤ 1048576) (hc : c.length ≤ 1048576) : pmayClo.Ret [.str s, .rptr [.list none (strs b)], .rptr [.list none (strs c)]] (.val (.bool (decide (s ∈ b) || !decide (s ∈ c)))) [] := by
 refine pmayClo.ir.of rfl ?_
 repeat' first
  | (conv => whnf
     first | refine Need.mk (fun h => h) ?_ | refine FinVal.keep ?_ | refine Final.mk rfl rfl | refine ACall.scalA _ _ (slContains.ret _ _ ?_) rfl ?_ | refine AGCall.mkA _ _ (fun hg => slContains.ret _ _ ?_) rfl ?_)
 ·exact hb
 ·exact hc
theorem pusesClo.ret (a : VAction) (b : List Str) (h : tAction.size a ≤ 1048576) (hb : b.length ≤ 1048576) : pusesClo.Ret [.agg (oldL (tAction.q a)), .rptr [.list none (strs b)]] (.val (.bool ((avC a).all fun v => decide (v ∈ b)))) [] := by
 refine pusesClo.ir.of rfl ?_
 have hp := tAction_pat a
 have hvl := avC_len a
 have hvo := pVarsOf.own a.2 (by omega)
 have hok := ok_strT (avC a)
 rw [show insAll blt (vs a.2.2) = avC a from rfl] at hvo
 have ha := pareAmong.ret (avC a) b (by omega) hb
 repeat' first
  | (conv => whnf
     first | refine nb_ ?_ | refine FinVal.keep ?_ | refine Final.mk rfl rfl | refine ACall.oldA _ _ (hvo) ?_ | refine ACall.scalC _ _ (ha) rfl ?_)
def mayF (l : List VCond) (m : List VAction) (i : Nat) (x : VCond) : Bool :=
 if x.1 = 1 then true else if x.1 = 2 then (cvC x).all (fun v => decide (v ∈ bvF l i) || !decide (v ∈ rvF (l.take i ++ l.drop (i + 1)) m)) else (cvC x).all (fun v => decide (v ∈ bvF l i))
theorem may_ok {l : List VCond} {m : List VAction} {i : Nat} {x : VCond} (h : isCondF x = true) : mayF l m i x = (cvC x).all (okV l m i x) := by
 unfold mayF
 by_cases h1 : x.1 = 1
 ·rw [if_pos h1]
  refine (List.all_eq_true.2 fun v _ => ?_).symm
  have : isTestF x = false := by simp [isTestF, testKind, h1]
  simp [okV, this, h1]
 rw [if_neg h1]
 by_cases h2 : x.1 = 2
 ·rw [if_pos h2]
  congr 1
  funext v
  have : isTestF x = false := by simp [isTestF, testKind, h2]
  have e : decide (v ∈ rvF (l.take i ++ l.drop (i + 1)) m) = elseF l m i v := decide_eq_decide.2 mem_insB
  simp [okV, this, h2, e]
 rw [if_neg h2]
 congr 1
 funext v
 have hk : hasKind x.1 = false := by simp [hasKind, h1, h2]
 have : isTestF x = true := by rwa [isCondF, if_neg (by simp [hk])] at h
 simp [okV, this, h2]
open Abs
set_option maxHeartbeats 40000000 in
theorem pmay1.ret (r : VRule) (i : Nat) (h : tRule.size r ≤ 1048576) (hi : i < r.2.2.1.length) (h1 : (r.2.2.1.getD i default).1 = 1) : pmayStandAt.Ret [.agg (oldL (tRule.q r)), .val (.int .i64 i)] (.val (.bool (mayF r.2.2.1 r.2.2.2 i (r.2.2.1.getD i default)))) [] := by
 refine pmayStandAt.ir.ofS rfl rfl ?_
 have hrs := h
 rw [tRule_sz] at h
 have hc := cond_le hi
 have hvl := cvC_len (r.2.2.1.getD i default)
 have hvo := pCondVars.own (r.2.2.1.getD i default) (by omega)
 have hok := ok_strT (cvC (r.2.2.1.getD i default))
 rw [show insAll blt (vs (cvF (r.2.2.1.getD i default))) = cvC (r.2.2.1.getD i default) from rfl] at hvo
 have hbi := pBoundVars.own r i hrs
 rw [Int.toNat_natCast] at hbi
 have hbik := ok_strT (bvF r.2.2.1 i)
 have hbil := bvF_len r.2.2.1 i
 have hb1 : ((r.2.2.1.getD (i : Int).toNat default).1 == 1) = true := by rw [Int.toNat_natCast, beq_iff_eq]; exact h1
 rw [mayF, if_pos h1]
 repeat' first
  | exact trivial
  | (conv => whnf
     first | refine Need.mk rfl ?_ | refine Need.mk ⟨rfl, Nat.le_of_ble_eq_true rfl⟩ ?_ | refine nb_ ?_ | refine Ix.mapN (fun _ => rfl) ?_ | refine Fork.yes (by assumption) ?_ | refine HAlt.mk ?_ ?_ | refine HJoin.split ?_ | refine FinVal.keep ?_ | refine Final.mk rfl rfl | refine ACall.oldA _ _ (hbi) ?_)
open Abs
theorem one_out {α : Type} (T : Ty α) (l : List α) (i : Nat) : listSize T (l.take i ++ l.drop (i + 1)) ≤ listSize T l ∧ (l.take i ++ l.drop (i + 1)).length ≤ l.length := by
 refine ⟨?_, by rw [List.length_append, List.length_take, List.length_drop]; omega⟩
 have hd : ∀ (l : List α) (n : Nat), listSize T (l.drop n) ≤ listSize T l := by
  intro l
  induction l with
  | nil => intro n; simp [listSize]
  | cons a l ih =>
   intro n
   cases n with
   | zero => simp
   | succ n => have := ih n; simp only [List.drop_succ_cons, listSize]; omega
 induction l generalizing i with
 | nil => simp [listSize]
 | cons a l ih =>
  cases i with
  | zero => have := hd l 0; simp only [List.take_zero, List.nil_append, List.drop_succ_cons, listSize]; simp only [List.drop_zero] at *; omega
  | succ i => have := ih i; simp only [List.take_succ_cons, List.cons_append, List.drop_succ_cons, listSize]; omega
set_option maxHeartbeats 40000000 in
theorem pmay2.ret (r : VRule) (i : Nat) (h : tRule.size r ≤ 1048576) (hi : i < r.2.2.1.length) (h1 : (r.2.2.1.getD i default).1 ≠ 1) (h2 : (r.2.2.1.getD i default).1 = 2) : pmayStandAt.Ret [.agg (oldL (tRule.q r)), .val (.int .i64 i)] (.val (.bool (mayF r.2.2.1 r.2.2.2 i (r.2.2.1.getD i default)))) [] := by
 refine pmayStandAt.ir.ofS rfl rfl ?_
 have hrs := h
 rw [tRule_sz] at h
 have hc := cond_le hi
 have hvl := cvC_len (r.2.2.1.getD i default)
 have hvo := pCondVars.own (r.2.2.1.getD i default) (by omega)
 have hok := ok_strT (cvC (r.2.2.1.getD i default))
 rw [show insAll blt (vs (cvF (r.2.2.1.getD i default))) = cvC (r.2.2.1.getD i default) from rfl] at hvo
 have hbi := pBoundVars.own r i hrs
 rw [Int.toNat_natCast] at hbi
 have hbik := ok_strT (bvF r.2.2.1 i)
 have hbil := bvF_len r.2.2.1 i
 have hb1 : ((r.2.2.1.getD (i : Int).toNat default).1 == 1) = false := by rw [Int.toNat_natCast, beq_eq_false_iff_ne]; exact h1
 have hb2 : ((r.2.2.1.getD (i : Int).toNat default).1 == 2) = true := by rw [Int.toNat_natCast, beq_iff_eq]; exact h2
 have hw : IntKind.i64.wrap ((i : Int) + 1) = ((i + 1 : Nat) : Int) := by rw [wrap64 (by omega) (by omega)]; rfl
 have hB : (r.2.2.1.take ((oldLL (r.2.2.1.map tCond.q)).length : Int).toNat).drop (IntKind.i64.wrap ((i : Int) + 1)).toNat = r.2.2.1.drop (i + 1) := by
  rw [hw, length_oldLL, List.length_map, Int.toNat_natCast, Int.toNat_natCast, List.take_length]
 have hcat : slConcatC.Ret [.list none [[.list none (rows tCond (r.2.2.1.take i))], [.list none (rows tCond ((r.2.2.1.take ((oldLL (r.2.2.1.map tCond.q)).length : Int).toNat).drop (IntKind.i64.wrap ((i : Int) + 1)).toNat))]]] (.list (some 0) (rows tCond (r.2.2.1.take i ++ r.2.2.1.drop (i + 1)))) [(116, 5, (r.2.2.1.take i ++ r.2.2.1.drop (i + 1)).length)] := by
  rw [hB]
  exact slConcatC2.ret _ _ (by rw [List.length_take, List.length_drop]; omega)
 have hrs' : tRule.size (([] : Str), (0 : Int), r.2.2.1.take i ++ r.2.2.1.drop (i + 1), r.2.2.2) ≤ 1048576 := by
  rw [tRule_sz]
  have := one_out tCond r.2.2.1 i
  simp only [List.length_nil]; omega
 have hrv := pRuleVars.own (([] : Str), (0 : Int), r.2.2.1.take i ++ r.2.2.1.drop (i + 1), r.2.2.2) hrs'
 have hrk := ok_strT (rvF (r.2.2.1.take i ++ r.2.2.1.drop (i + 1)) r.2.2.2)
 have hrl := rvF_len (([] : Str), (0 : Int), r.2.2.1.take i ++ r.2.2.1.drop (i + 1), r.2.2.2)
 rw [tRule_sz] at hrs'
 simp only at hrs' hrl hrv
 have ha := pallS.ret (fun v => decide (v ∈ bvF r.2.2.1 i) || !decide (v ∈ rvF (r.2.2.1.take i ++ r.2.2.1.drop (i + 1)) r.2.2.2)) _ _ (seesR2 _ _) (cvC (r.2.2.1.getD i default)) (fun x => pmayClo.ret x (bvF r.2.2.1 i) (rvF (r.2.2.1.take i ++ r.2.2.1.drop (i + 1)) r.2.2.2) (by omega) (by omega)) (by omega)
 rw [mayF, if_neg h1, if_pos h2]
 have hz1 : true = true → (0 : Int) ≤ ((0 : Nat) : Int) ∧ ((0 : Nat) : Int) ≤ (i : Int) ∧ (i : Int) ≤ (r.2.2.1.length : Int) := fun _ => ⟨by omega, by omega, by omega⟩
 have hz2 : true = true → 0 ≤ IntKind.i64.wrap ((i : Int) + 1) ∧ IntKind.i64.wrap ((i : Int) + 1) ≤ ((oldLL (r.2.2.1.map tCond.q)).length : Int) ∧ ((oldLL (r.2.2.1.map tCond.q)).length : Int) ≤ (r.2.2.1.length : Int) := fun _ => by
  rw [hw, length_oldLL, List.length_map]; omega
 clear hrl hrs' hB hw h hrs hc hvl hbil
 skip
 conv => whnf
 refine HJoin.split ?_
 repeat' first
  | exact trivial
  | (conv => whnf
     first | refine Need.mk rfl ?_ | refine Need.mk ⟨rfl, Nat.le_of_ble_eq_true rfl⟩ ?_ | refine nb_ ?_ | refine Ix.mapN (fun _ => rfl) ?_ | refine Fork.yes (by assumption) ?_ | refine Fork.no (by assumption) ?_ | refine HAlt.mk ?_ ?_ | refine ACall.oldA _ _ (hbi) ?_)
 all_goals
  repeat' first
   | exact trivial
   | (conv => whnf
      first | refine Need.mk rfl ?_ | refine Need.mk ⟨rfl, Nat.le_of_ble_eq_true rfl⟩ ?_ | refine nb_ ?_ | refine Need.mk ?_ ?_ | refine Cut.map (fun _ => rfl) ?_ ?_ | refine HAlt.mk ?_ ?_ | apply HJoin.mk3 | exact HEnd.mk rfl rfl rfl | refine FinVal.keep ?_ | refine Final.mk rfl rfl | refine ACall.oldA _ _ (hvo) ?_ | refine ACall.mkL2 _ _ _ _ (hcat) ?_ | refine ACall.oldA _ _ (hrv) ?_ | refine ACall.scalC _ _ (ha) rfl ?_)
 all_goals first
  | exact hz1
  | exact hz2
  | exact ⟨rfl, rfl⟩
open Abs
set_option maxHeartbeats 40000000 in
theorem pmay3.ret (r : VRule) (i : Nat) (h : tRule.size r ≤ 1048576) (hi : i < r.2.2.1.length) (h1 : (r.2.2.1.getD i default).1 ≠ 1) (h2 : (r.2.2.1.getD i default).1 ≠ 2) : pmayStandAt.Ret [.agg (oldL (tRule.q r)), .val (.int .i64 i)] (.val (.bool (mayF r.2.2.1 r.2.2.2 i (r.2.2.1.getD i default)))) [] := by
 refine pmayStandAt.ir.ofS rfl rfl ?_
 have hrs := h
 rw [tRule_sz] at h
 have hc := cond_le hi
 have hvl := cvC_len (r.2.2.1.getD i default)
 have hvo := pCondVars.own (r.2.2.1.getD i default) (by omega)
 have hok := ok_strT (cvC (r.2.2.1.getD i default))
 rw [show insAll blt (vs (cvF (r.2.2.1.getD i default))) = cvC (r.2.2.1.getD i default) from rfl] at hvo
 have hbi := pBoundVars.own r i hrs
 rw [Int.toNat_natCast] at hbi
 have hbik := ok_strT (bvF r.2.2.1 i)
 have hbil := bvF_len r.2.2.1 i
 have hb1 : ((r.2.2.1.getD (i : Int).toNat default).1 == 1) = false := by rw [Int.toNat_natCast, beq_eq_false_iff_ne]; exact h1
 have hb2 : ((r.2.2.1.getD (i : Int).toNat default).1 == 2) = false := by rw [Int.toNat_natCast, beq_eq_false_iff_ne]; exact h2
 have ha := pareAmong.ret (cvC (r.2.2.1.getD i default)) (bvF r.2.2.1 i) (by omega) (by omega)
 rw [mayF, if_neg h1, if_neg h2]
 repeat' first
  | exact trivial
  | (conv => whnf
     first | refine Need.mk rfl ?_ | refine Need.mk ⟨rfl, Nat.le_of_ble_eq_true rfl⟩ ?_ | refine nb_ ?_ | refine Ix.mapN (fun _ => rfl) ?_ | refine Fork.no (by assumption) ?_ | refine HAlt.mk ?_ ?_ | refine HJoin.split ?_ | refine FinVal.keep ?_ | refine Final.mk rfl rfl | refine ACall.oldA _ _ (hbi) ?_ | refine ACall.oldA _ _ (hvo) ?_ | refine ACall.scalC _ _ (ha) rfl ?_)
open Abs
theorem pmayStandAt.ret (r : VRule) (i : Nat) (h : tRule.size r ≤ 1048576) (hi : i < r.2.2.1.length) : pmayStandAt.Ret [.agg (oldL (tRule.q r)), .val (.int .i64 i)] (.val (.bool (mayF r.2.2.1 r.2.2.2 i (r.2.2.1.getD i default)))) [] := by
 by_cases h1 : (r.2.2.1.getD i default).1 = 1
 ·exact pmay1.ret r i h hi h1
 by_cases h2 : (r.2.2.1.getD i default).1 = 2
 ·exact pmay2.ret r i h hi h1 h2
 exact pmay3.ret r i h hi h1 h2
def condsF (l : List VCond) : Bool := decide (1 ≤ (l.length : Int)) && decide ((l.length : Int) ≤ 4) && ((l.getD 0 default).1 == 1) && l.all isCondF
def actsF (m : List VAction) : Bool := decide (1 ≤ (m.length : Int)) && decide ((m.length : Int) ≤ 2) && m.all isActF
theorem pareConds.ret (l : List VCond) (h : tConds.size l ≤ 1048576) : pareConds.Ret [.list none (rows tCond l)] (.val (.bool (condsF l))) [] := by
 refine pareConds.ir.of rfl ?_
 have ha := pallC.ret isCondF _ l (fun x hx => pIsCond.ret x hx) h
 repeat' first
  | (conv => whnf
     first | refine Need.mk (fun h => h) ?_ | refine Need.mk rfl ?_ | refine Ix.mapN (fun _ => rfl) ?_ | refine FinVal.keep ?_ | refine Final.mk ?_ rfl | refine AGCall.mkA _ _ (fun hg => ha) rfl ?_)
  | refine AV.bool_congr ?_
 rw [length_rows]; rfl
theorem pareActions.ret (m : List VAction) (h : tActions.size m ≤ 1048576) : pareActions.Ret [.list none (rows tAction m)] (.val (.bool (actsF m))) [] := by
 refine pareActions.ir.of rfl ?_
 have ha := pallA0.ret isActF _ m (fun x hx => pIsAction.ret x hx) h
 repeat' first
  | (conv => whnf
     first | refine Need.mk (fun h => h) ?_ | refine Need.mk rfl ?_ | refine FinVal.keep ?_ | refine Final.mk ?_ rfl | refine AGCall.mkA _ _ (fun hg => ha) rfl ?_)
  | refine AV.bool_congr ?_
 rw [length_rows]; rfl
def usesF (l : List VCond) (m : List VAction) : Bool := ((List.range l.length).all fun i => mayF l m i (l.getD i default)) && m.all fun a => (avC a).all fun v => decide (v ∈ bvF l l.length)
theorem pusesOnlyBound.ret (r : VRule) (h : tRule.size r ≤ 1048576) : pusesOnlyBound.Ret [.agg (oldL (tRule.q r))] (.val (.bool (usesF r.2.2.1 r.2.2.2))) [] := by
 refine pusesOnlyBound.ir.ofS rfl rfl ?_
 have hrs := h
 have hz := tRule_size r
 have hta : tActions.size r.2.2.2 ≤ 1048576 := by omega
 rw [tRule_sz] at h
 have hbk := ok_strT (bvF r.2.2.1 r.2.2.1.length)
 have hbl := bvF_len r.2.2.1 r.2.2.1.length
 have hbx : pBoundVars.Own [.agg (oldL (tRule.q r)), .val (.int .i64 (oldLL (r.2.2.1.map tCond.q)).length)] (strT (bvF r.2.2.1 r.2.2.1.length)) := by
  rw [length_oldLL, List.length_map]
  have := pBoundVars.own r r.2.2.1.length hrs
  rwa [Int.toNat_natCast] at this
 have ha := pallA1.ret (fun a => (avC a).all fun v => decide (v ∈ bvF r.2.2.1 r.2.2.1.length)) _ (bvF r.2.2.1 r.2.2.1.length) r.2.2.2 (fun x hx => pusesClo.ret x _ hx (by omega)) hta
 skip
 refine ALoop.mk Nat (fun i => ⟨[(1, .bptr 0 0), (7, .val (.int .i64 r.2.2.1.length)), (8, .val (.int .i64 i))], [.cells .var (oldL (tRule.q r))], []⟩) (fun i => i ≤ r.2.2.1.length ∧ ∀ j, j < i → mayF r.2.2.1 r.2.2.2 j (r.2.2.1.getD j default) = true) (fun i => r.2.2.1.length - i) ⟨0, ⟨Nat.zero_le _, fun j hj => by omega⟩, ?_⟩ (fun i hi => ?_)
 ·repeat' first
   | exact trivial | refine wl_ ?_ ?_ ?_ ?_ | refine And.intro ?_ ?_ | with_reducible rfl | exact ble_ | refine AV.int_congr ?_ | (apply rfl)
  simp
 by_cases hi' : i < r.2.2.1.length
 ·have hm := pmayStandAt.ret r i hrs hi'
  repeat' first
   | (conv => whnf
      first | refine Need.mk rfl ?_ | refine nb_ ?_ | refine Fork.decY ?_ | refine Fork.neg (fun _ => ?_) (fun _ => ?_) | refine Round.mk ?_ | refine FinVal.keep ?_ | refine Final.mk ?_ rfl | refine ACall.scalC _ _ (hm) rfl ?_)
   | refine AV.bool_congr ?_
  ·rename_i h1
   have : ((List.range r.2.2.1.length).all fun i => mayF r.2.2.1 r.2.2.2 i (r.2.2.1.getD i default)) = false := by
    rw [List.all_eq_false]
    exact ⟨i, List.mem_range.2 hi', by rw [h1]; simp⟩
   rw [usesF, this, Bool.false_and]
  ·rename_i h1
   refine ⟨i + 1, ⟨by omega, fun j hj => ?_⟩, ?_, by omega⟩
   ·rcases Nat.lt_or_eq_of_le (Nat.le_of_lt_succ hj) with h5 | h5
    ·exact hi.2 j h5
    ·subst h5; exact h1
   ·repeat' first
     | exact trivial | refine wl_ ?_ ?_ ?_ ?_ | refine And.intro ?_ ?_ | with_reducible rfl | exact ble_ | refine AV.int_congr ?_ | (apply rfl)
    rw [wrap64 (by omega) (by omega)]; rfl
 have hall : ((List.range r.2.2.1.length).all fun i => mayF r.2.2.1 r.2.2.2 i (r.2.2.1.getD i default)) = true := List.all_eq_true.2 fun j hj => hi.2 j (by have := List.mem_range.1 hj; omega)
 repeat' first
  | (conv => whnf
     first | refine Need.mk rfl ?_ | refine Need.mk ⟨rfl, Nat.le_of_ble_eq_true rfl⟩ ?_ | refine nb_ ?_ | refine Need.mk ?_ ?_ | refine Fork.decN ?_ | refine FinVal.keep ?_ | refine Final.mk ?_ rfl | refine ACall.oldA _ _ (hbx) ?_ | refine ACall.scalC _ _ (ha) rfl ?_)
  | refine AV.bool_congr ?_
 ·exact ⟨rfl, rfl⟩
 ·rw [usesF, hall, Bool.true_and]
theorem getD_in {α : Type} [Inhabited α] {l : List α} {a : α} (h : a ∈ l) : ∃ i, i < l.length ∧ l.getD i default = a := by
 obtain ⟨i, hi⟩ := List.getElem?_of_mem h
 exact ⟨i, getElem?_lt hi, by rw [List.getD_eq_getElem?_getD, hi]; rfl⟩
theorem rule_prog (r : VRule) : (nameF r.1 && decide (0 ≤ r.2.1) && decide (r.2.1 ≤ 9) && condsF r.2.2.1 && actsF r.2.2.2 && usesF r.2.2.1 r.2.2.2 && decide (((cvsF r.2.2.1).length : Int) ≤ 6)) = isRuleF r := by
 have hl : decide (((cvsF r.2.2.1).length : Int) ≤ 6) = decide ((cvsF r.2.2.1).length ≤ 6) := decide_eq_decide.2 (by omega)
 rw [hl, Bool.eq_iff_iff, isRuleF]
 simp only [Bool.and_eq_true, condsF, actsF, usesF, decide_eq_true_eq]
 constructor
 ·rintro ⟨⟨⟨⟨⟨⟨h1, h2⟩, h3⟩, ⟨⟨h4, h5⟩, h6⟩, h7⟩, ⟨h8, h9⟩, h10⟩, h11, h12⟩, h13⟩
  refine ⟨⟨⟨⟨⟨⟨⟨⟨⟨h1, h2⟩, h3⟩, by omega⟩, by omega⟩, by omega⟩, by omega⟩, List.all_eq_true.2 fun i hi => ?_⟩, List.all_eq_true.2 fun a ha => ?_⟩, h13⟩
  ·have hi' := List.mem_range.1 hi
   have hc := List.all_eq_true.1 h7 _ (getD_mem hi')
   have hm := List.all_eq_true.1 h11 i hi
   rw [may_ok hc] at hm
   rw [okC, hc, hm]
   cases i with
   | zero => rw [h6]; rfl
   | succ i => rfl
  ·rw [okA, List.all_eq_true.1 h10 a ha, List.all_eq_true.1 h12 a ha]; rfl
 ·rintro ⟨⟨⟨⟨⟨⟨⟨⟨⟨h1, h2⟩, h3⟩, h4⟩, h5⟩, h8⟩, h9⟩, hC⟩, hA⟩, h13⟩
  have hc : ∀ i, i < r.2.2.1.length → isCondF (r.2.2.1.getD i default) = true ∧ (!(i == 0) || (r.2.2.1.getD i default).1 == 1) = true ∧ (cvC (r.2.2.1.getD i default)).all (okV r.2.2.1 r.2.2.2 i (r.2.2.1.getD i default)) = true := fun i hi => by
   have := List.all_eq_true.1 hC i (List.mem_range.2 hi)
   rw [okC, Bool.and_eq_true, Bool.and_eq_true] at this
   exact ⟨this.1.1, this.1.2, this.2⟩
  refine ⟨⟨⟨⟨⟨⟨h1, h2⟩, h3⟩, ⟨⟨by omega, by omega⟩, ?_⟩, List.all_eq_true.2 fun x hx => ?_⟩, ⟨by omega, by omega⟩, List.all_eq_true.2 fun a ha => ?_⟩, List.all_eq_true.2 fun i hi => ?_, List.all_eq_true.2 fun a ha => ?_⟩, h13⟩
  ·have := (hc 0 (by omega)).2.1
   simpa using this
  ·obtain ⟨i, hi, rfl⟩ := getD_in hx
   exact (hc i hi).1
  ·have := List.all_eq_true.1 hA a ha
   rw [okA, Bool.and_eq_true] at this
   exact this.1
  ·have hi' := List.mem_range.1 hi
   rw [may_ok (hc i hi').1]
   exact (hc i hi').2.2
  ·have := List.all_eq_true.1 hA a ha
   rw [okA, Bool.and_eq_true] at this
   exact this.2
theorem pIsRule.ret (r : VRule) (h : tRule.size r ≤ 1048576) : pIsRule.Ret [.agg (oldL (tRule.q r))] (.val (.bool (isRuleF r))) [] := by
 refine pIsRule.ir.ofS rfl rfl ?_
 have hrs := h
 have hz := tRule_size r
 rw [tRule_sz] at h
 have hca := pareConds.ret r.2.2.1 (by omega)
 have haa := pareActions.ret r.2.2.2 (by omega)
 have hu := pusesOnlyBound.ret r hrs
 have hv := pvarsOfConds.own r.2.2.1 (by omega)
 have hvk := ok_strT (cvsF r.2.2.1)
 repeat' first
  | (conv => whnf
     first | refine Need.mk (fun h => h) ?_ | refine Need.mk rfl ?_ | refine nb_ ?_ | refine FinVal.keep ?_ | refine Final.mk ?_ rfl | refine ACall.scalA _ _ (pIsName.ret _ ?_) rfl ?_ | refine AGCall.mkA _ _ (fun hg => hca) rfl ?_ | refine AGCall.mkA _ _ (fun hg => haa) rfl ?_ | refine AGCall.scalC _ _ (fun hg => hu) rfl ?_ | refine AGCall.oldA _ _ (fun hg => hv) ?_)
  | refine AV.bool_congr ?_
 ·omega
 ·rw [length_oldLL, List.length_map]; exact rule_prog r
theorem sAreRules.ret (l : List VRule) (h : tRules.size l ≤ 1048576) : sAreRules.Ret [.list none (rows tRule l)] (.val (.bool (areRF l))) [] := by
 refine sAreRules.ir.ofS rfl rfl ?_
 have hrs := h
 rw [tRules_sz] at h
 skip
 refine ALoop.mk Nat (fun i => ⟨[(0, .list none (rows tRule l)), (3, .val (.int .i64 i))], [], []⟩) (fun i => i ≤ l.length ∧ ∀ j, j < i → (isRuleF (l.getD j default) && findR l (l.getD j default).1 0 == (j : Int)) = true) (fun i => l.length - i) ⟨0, ⟨Nat.zero_le _, fun j hj => by omega⟩, ?_⟩ (fun i hi => ?_)
 ·repeat' first
   | exact trivial | refine wl_ ?_ ?_ ?_ ?_ | refine And.intro ?_ ?_ | with_reducible rfl | exact ble_ | refine AV.int_congr ?_ | refine AV.list_congr ?_ | (apply rfl)
 by_cases hi' : i < l.length
 rotate_left
 ·have hy := areR_yes (l := l) fun j hj => hi.2 j (by omega)
  repeat' first
   | (conv => whnf
      first | refine Need.mk rfl ?_ | refine Fork.decN ?_ | refine FinVal.keep ?_ | refine Final.mk ?_ rfl)
   | refine AV.bool_congr ?_
  rw [hy]
  exact decide_eq_decide.2 (by rw [length_rows]; omega)
 have hc := rule_le hi'
 have hf := sFindRule.ret l (l.getD i default).1 hrs
 repeat' first
  | (conv => whnf
     first | refine Need.mk (fun h => h) ?_ | refine Need.mk rfl ?_ | refine nb_ ?_ | refine Ix.mapN (fun _ => rfl) ?_ | refine Fork.decY ?_ | refine Fork.mk (fun _ => ?_) (fun _ => ?_) | refine Round.mk ?_ | refine FinVal.keep ?_ | refine Final.mk ?_ rfl | refine ACall.scalC _ _ (sIsRule.ret _ ?_) rfl ?_ | refine AGCall.mkA _ _ (fun hg => hf) rfl ?_)
  | refine AV.bool_congr ?_
 ·rw [Int.toNat_natCast]; omega
 ·rename_i h1
  have h2 : (isRuleF (l.getD i default) && findR l (l.getD i default).1 0 == (i : Int)) = false := by
   revert h1; rw [Int.toNat_natCast]
   cases isRuleF (l.getD i default) <;> simp
  exact (areR_no hi' h2).symm
 ·rename_i h1
  have h2 : (isRuleF (l.getD i default) && findR l (l.getD i default).1 0 == (i : Int)) = true := by
   revert h1; rw [Int.toNat_natCast]
   cases isRuleF (l.getD i default) <;> simp
  refine ⟨i + 1, ⟨by omega, fun j hj => ?_⟩, ?_, by omega⟩
  ·rcases Nat.lt_or_eq_of_le (Nat.le_of_lt_succ hj) with h5 | h5
   ·exact hi.2 j h5
   ·subst h5; exact h2
  ·repeat' first
    | exact trivial | refine wl_ ?_ ?_ ?_ ?_ | refine And.intro ?_ ?_ | with_reducible rfl | exact ble_ | refine AV.int_congr ?_ | refine AV.list_congr ?_ | (apply rfl)
   rw [wrap64 (by omega) (by omega)]; rfl
theorem pAreRules.ret (l : List VRule) (h : tRules.size l ≤ 1048576) : pAreRules.Ret [.list none (rows tRule l)] (.val (.bool (areRF l))) [] := by
 refine pAreRules.ir.ofS rfl rfl ?_
 have hrs := h
 rw [tRules_sz] at h
 by_cases h6 : l.length ≤ 6
 rotate_left
 ·have : areRF l = false := by rw [areRF, decide_eq_false h6, Bool.false_and]
  rw [this]
  repeat' first
   | (conv => whnf
      first | refine Need.mk rfl ?_ | refine Fork.decY ?_ | refine FinVal.keep ?_ | refine Final.mk rfl rfl)
 repeat' first
  | (conv => whnf
     first | refine Need.mk rfl ?_ | refine Fork.decN ?_)
 refine ALoop.mk Nat (fun i => ⟨[(0, .list none (rows tRule l)), (8, .list none (rows tRule l)), (9, .val (.int .i64 l.length)), (10, .val (.int .i64 i))], [], []⟩) (fun i => i ≤ l.length ∧ ∀ j, j < i → (isRuleF (l.getD j default) && findR l (l.getD j default).1 0 == (j : Int)) = true) (fun i => l.length - i) ⟨0, ⟨Nat.zero_le _, fun j hj => by omega⟩, ?_⟩ (fun i hi => ?_)
 ·repeat' first
   | exact trivial | refine wl_ ?_ ?_ ?_ ?_ | refine And.intro ?_ ?_ | with_reducible rfl | exact ble_ | refine AV.int_congr ?_ | refine AV.list_congr ?_ | (apply rfl)
  simp
 by_cases hi' : i < l.length
 rotate_left
 ·have hy := areR_yes (l := l) fun j hj => hi.2 j (by omega)
  repeat' first
   | (conv => whnf
      first | refine Need.mk rfl ?_ | refine Fork.decN ?_ | refine FinVal.keep ?_ | refine Final.mk ?_ rfl)
   | refine AV.bool_congr ?_
  rw [hy, decide_eq_true h6]
 have hc := rule_le hi'
 have hf := pFindRule.ret l (l.getD i default).1 hrs
 have hir := pIsRule.ret (l.getD i default) (by omega)
 repeat' first
  | (conv => whnf
     first | refine Need.mk (fun h => h) ?_ | refine Need.mk rfl ?_ | refine Need.mk ⟨rfl, Nat.le_of_ble_eq_true rfl⟩ ?_ | refine nb_ ?_ | refine Ix.mapN (fun _ => rfl) ?_ | refine Fork.decY ?_ | refine Fork.mk (fun _ => ?_) (fun _ => ?_) | refine Round.mk ?_ | refine FinVal.keep ?_ | refine Final.mk ?_ rfl | refine ACall.scalA _ _ (hir) rfl ?_ | refine AGCall.mkA _ _ (fun hg => hf) rfl ?_)
  | refine AV.bool_congr ?_
 ·rename_i h1
  have h2 : (isRuleF (l.getD i default) && findR l (l.getD i default).1 0 == (i : Int)) = false := by
   revert h1
   cases isRuleF (l.getD i default) <;> simp
  exact (areR_no hi' h2).symm
 ·rename_i h1
  have h2 : (isRuleF (l.getD i default) && findR l (l.getD i default).1 0 == (i : Int)) = true := by
   revert h1
   cases isRuleF (l.getD i default) <;> simp
  refine ⟨i + 1, ⟨by omega, fun j hj => ?_⟩, ?_, by omega⟩
  ·rcases Nat.lt_or_eq_of_le (Nat.le_of_lt_succ hj) with h5 | h5
   ·exact hi.2 j h5
   ·subst h5; exact h2
  ·repeat' first
    | exact trivial | refine wr_ ?_ ?_ ?_ ?_ | refine And.intro ?_ ?_ | with_reducible rfl | exact ble_ | refine AV.int_congr ?_ | refine AV.list_congr ?_ | (apply rfl)
   rw [wrap64 (by omega) (by omega)]; rfl
open Abs
abbrev matT (ms : List VMatch) : Tr := .l 65 3 (ms.map tMatch.q)
theorem tMatchs_canon : Canon tMatchs := Canon.list _ tMatch_canon
def tokOk (r : VRule) (n : Int) (l : List Fct) : Bool := isRuleF r && areF l && decide (0 ≤ n) && decide (n ≤ (r.2.2.1.length : Int))
def tokensF (r : VRule) (n : Int) (l : List Fct) : List VToken := if tokOk r n l then toksF l (r.2.2.1.take n.toNat) else []
theorem rule_conds {r : VRule} (h : isRuleF r = true) : r.2.2.1.length ≤ 4 := by
 unfold isRuleF at h
 simp only [Bool.and_eq_true, decide_eq_true_eq] at h
 exact h.1.1.1.1.1.2
theorem empty_own (F : Fr) : ∃ us, OwnA [(90, 2, 0)] [tokT []] [.list (some 0) []] us ∧ us.Nodup := (AccO.nil (T := tToken) (t := 90) (k := 0) (F := [(90, 2, 0)]) rfl).final
theorem toks_own (ts : List VToken) : ∃ us, OwnA (tTokens.fr ts) [tokT ts] [.list (some (0 + (frs tToken ts).length)) (tks tToken ts 0)] us ∧ us.Nodup := by
 obtain ⟨us, h1, h2, _⟩ := tTokens.tkOwn ts (n := 0) (F := tTokens.fr ts) (fun i x hi => by rw [Nat.zero_add]; exact hi)
 exact ⟨us, h1, h2⟩
theorem tokOk_s (r : VRule) (n : Int) (l : List Fct) : (!isRuleF r || !areF l || !(decide (0 ≤ n) && decide (n ≤ ((oldLL (r.2.2.1.map tCond.q)).length : Int)))) = !tokOk r n l := by
 rw [length_oldLL, List.length_map, tokOk]
 cases isRuleF r <;> cases areF l <;> cases decide (0 ≤ n) <;> cases decide (n ≤ (r.2.2.1.length : Int)) <;> rfl
theorem tokOk_p (r : VRule) (n : Int) (l : List Fct) : (!isRuleF r || !areF l || decide (n < 0) || decide (((oldLL (r.2.2.1.map tCond.q)).length : Int) < n)) = !tokOk r n l := by
 rw [length_oldLL, List.length_map, tokOk]
 have e1 : decide (n < 0) = !decide (0 ≤ n) := by by_cases h : n < 0 <;> simp [h] <;> omega
 have e2 : decide ((r.2.2.1.length : Int) < n) = !decide (n ≤ (r.2.2.1.length : Int)) := by by_cases h : (r.2.2.1.length : Int) < n <;> simp [h] <;> omega
 rw [e1, e2]
 cases isRuleF r <;> cases areF l <;> cases decide (0 ≤ n) <;> cases decide (n ≤ (r.2.2.1.length : Int)) <;> rfl
structure TokIn (r : VRule) (n : Int) (l : List Fct) : Prop where
 rule : isRuleF r = true
 facts : areF l = true
 lo : 0 ≤ n
 hi : n ≤ (r.2.2.1.length : Int)
theorem tokOk_in {r : VRule} {n : Int} {l : List Fct} (h : tokOk r n l = true) : TokIn r n l := by
 simp only [tokOk, Bool.and_eq_true, decide_eq_true_eq] at h
 exact ⟨h.1.1.1, h.1.1.2, h.1.2, h.2⟩
theorem tokens_no {r : VRule} {n : Int} {l : List Fct} (h : tokOk r n l = false) : tokensF r n l = [] := by rw [tokensF, h]; rfl
theorem tokens_yes {r : VRule} {n : Int} {l : List Fct} (h : tokOk r n l = true) : tokensF r n l = toksF l (r.2.2.1.take n.toNat) := by rw [tokensF, if_pos h]
theorem rule_sz (r : VRule) : tConds.size r.2.2.1 ≤ tRule.size r := by rw [tRule_sz, tConds_sz]; omega
theorem sTokensOf.own (r : VRule) (n : Int) (l : List Fct) (hr : tRule.size r ≤ 1048576) (h : tFcts.size l ≤ 1048576) : sTokensOf.Own [.agg (oldL (tRule.q r)), .val (.int .i64 n), .list none (facts l)] (tokT (tokensF r n l)) := by
 refine Abs.IrAt.ownP sTokensOf.ir rfl ?_
 have hrr := sIsRule.ret r hr
 have hra := sAreFacts.ret l h
 have hok := tokOk_s r n l
 have hz := rule_sz r
 cases ho : tokOk r n l with
 | false =>
  rw [ho] at hok
  rw [tokens_no ho]
  repeat' first
   | (conv => whnf
      first | refine Need.mk (fun h => h) ?_ | refine Need.mk rfl ?_ | refine nb_ ?_ | refine Fork.yes (by assumption) ?_ | refine ACall.scalC _ _ (hrr) rfl ?_ | refine AGCall.mkA _ _ (fun hg => hra) rfl ?_ | refine AGCall.mkA _ _ (fun hg => l1In.ret _ _ _) rfl ?_)
  skip
  exact empty_own []
 | true =>
  rw [ho] at hok
  obtain ⟨i1, i2, i3, i4⟩ := tokOk_in ho
  have hc4 := rule_conds i1
  rw [tokens_yes ho]
  have hret := tTokens_canon.ret rfl rfl (sTokens.own (r.2.2.1.take n.toNat) l (Nat.le_trans (tConds_take _ _) (by omega)) (by rw [List.length_take]; omega) h (areF_fact i2) (areF_len i2))
  repeat' first
   | (conv => whnf
      first | refine Need.mk (fun h => h) ?_ | refine nb_ ?_ | refine Cut.map (fun _ => rfl) ?_ ?_ | refine Fork.no (by assumption) ?_ | refine ACall.scalC _ _ (hrr) rfl ?_ | refine AGCall.mkA _ _ (fun hg => hra) rfl ?_ | refine AGCall.mkA _ _ (fun hg => l1In.ret _ _ _) rfl ?_)
  ·intro _; omega
  conv => whnf
  refine ACall.mk_TokenS _ _ hret (SeesL.cons ?_ (SeesL.cons ?_ SeesL.nil)) ?_
  ·exact @Sees0.olds _ _
  ·exact @Sees0.olds _ _
  skip
  exact toks_own _
theorem pTokensOf.own (r : VRule) (n : Int) (l : List Fct) (hr : tRule.size r ≤ 1048576) (h : tFcts.size l ≤ 1048576) : pTokensOf.OwnN [.agg (oldL (tRule.q r)), .val (.int .i64 n), .list none (facts l)] (tokT (tokensF r n l)) := by
 refine Abs.IrAt.ownP pTokensOf.ir rfl ?_
 have hrr := pIsRule.ret r hr
 have hra := pAreFacts.ret l h
 have hok := tokOk_p r n l
 have hz := rule_sz r
 cases ho : tokOk r n l with
 | false =>
  rw [ho] at hok
  rw [tokens_no ho]
  repeat' first
   | (conv => whnf
      first | refine Need.mk (fun h => h) ?_ | refine Need.mk rfl ?_ | refine nb_ ?_ | refine Fork.yes (by assumption) ?_ | refine ACall.scalC _ _ (Ret.weak (hrr)) rfl ?_ | refine AGCall.mkA _ _ (fun hg => Ret.weak (hra)) rfl ?_)
  skip
  exact empty_own []
 | true =>
  rw [ho] at hok
  obtain ⟨i1, i2, i3, i4⟩ := tokOk_in ho
  have hc4 := rule_conds i1
  rw [tokens_yes ho]
  have hret := tTokens_canon.ret rfl rfl (ptokensOfConds.own l h (areF_fact i2) (areF_len i2) n.toNat (r.2.2.1.take n.toNat) (by rw [List.length_take]; omega) (by omega) (Nat.le_trans (tConds_take _ _) (by omega)))
  repeat' first
   | (conv => whnf
      first | refine Need.mk (fun h => h) ?_ | refine Need.mk rfl ?_ | refine nb_ ?_ | refine Cut.map (fun _ => rfl) ?_ ?_ | refine Fork.no (by assumption) ?_ | refine ACall.scalC _ _ (Ret.weak (hrr)) rfl ?_ | refine AGCall.mkA _ _ (fun hg => Ret.weak (hra)) rfl ?_)
  ·intro _; omega
  conv => whnf
  refine ACall.mk_TokenS _ _ hret (SeesL.cons ?_ (SeesL.cons ?_ SeesL.nil)) ?_
  ·exact @Sees0.olds _ _
  ·exact @Sees0.olds _ _
  skip
  exact toks_own _
def matchesF (r : VRule) (l : List Fct) : List VMatch := (tokensF r (r.2.2.1.length : Int) l).map fun t => (r.1, t)
def rowM (nm : Str) (c : List AV) : List AV := .str nm :: c
theorem sMatchesOf.own (r : VRule) (l : List Fct) (hr : tRule.size r ≤ 1048576) (h : tFcts.size l ≤ 1048576) : sMatchesOf.Own [.agg (oldL (tRule.q r)), .list none (facts l)] (matT (matchesF r l)) := by
 refine Abs.IrAt.ownP sMatchesOf.ir rfl ?_
 have hret := tTokens_canon.ret rfl rfl (sTokensOf.own r (r.2.2.1.length : Int) l hr h)
 have hcl : ((oldLL (r.2.2.1.map tCond.q)).length : Int) = (r.2.2.1.length : Int) := by rw [length_oldLL, List.length_map]
 have hlen : (tokensF r (r.2.2.1.length : Int) l).length ≤ 331776 := by
  rw [tokensF]
  split
  ·rename_i ho
   obtain ⟨i1, i2, _, _⟩ := tokOk_in ho
   exact toksF_len4 (areF_len i2) (rule_conds i1) _
  ·exact Nat.zero_le _
 unfold matchesF
 generalize tokensF r (r.2.2.1.length : Int) l = src at hret hlen
 rw [← hcl] at hret
 repeat' first
  | (conv => whnf
     first | refine Need.mk rfl ?_ | refine nb_ ?_ | refine ACall.mk_TokenS _ _ (hret) (by repeat' first | exact SeesL.nil | refine SeesL.cons ?_ ?_ | exact SeesB.of0 (Sees0.val _) | exact SeesB.of0 (Sees0.str _) | exact SeesB.of0 (Sees0.olds _ _) | exact SeesB.of0 (Sees0.old _) | exact SeesB.of0 (Sees0.oldagg _) | exact SeesB.of0 Sees0.nil | exact Sees0.val _ | exact Sees0.str _ | exact Sees0.olds _ _ | exact Sees0.old _ | exact Sees0.oldagg _ | exact Sees0.nil | exact SeesB.of0 (Sees0.any _) | assumption | exact sees_gv _ _ _ (by assumption) (by first | assumption | exact BoxIn.last _ _ | exact BoxIn.more (BoxIn.last _ _) _) | refine SeesB.agg ?_ | refine Sees0.agg ?_ | exact SeesB.of0 (Sees0.clo SeesL.nil SeesL.nil) | exact Sees0.clo SeesL.nil SeesL.nil | exact SeesB.of0 (Sees0.list rfl) | exact Sees0.list rfl) ?_)
 refine ALoop.mk (Nat × Fr × List (List AV)) (fun i => ⟨[(2, .bptr 0 0), (5, .list (some 0) i.2.2), (6, .list (some (1 + (frs tToken src).length)) (tks tToken src 1)), (7, .val (.int .i64 i.1))], [.cells .var (oldL (tRule.q r))], i.2.1⟩)
  (fun i => i.1 ≤ src.length ∧ (∀ (j : Nat) y, (frs tToken src)[j]? = some y → i.2.1[1 + j]? = some y) ∧ 1 + (frs tToken src).length < i.2.1.length ∧ ∃ us, AccO tMatch 65 0 i.2.1 ((src.take i.1).map fun t => (r.1, t)) i.2.2 us ∧ ∀ u ∈ us, u < 1 + (frs tToken (src.take i.1)).length)
  (fun i => src.length - i.1) ⟨(0, (65, 3, 0) :: tTokens.fr src, []), ⟨Nat.zero_le _, fun j y hj => ?_, ?_, [], AccO.nil rfl, by simp⟩, ?_⟩ (fun i hi => ?_)
 ·rw [Nat.add_comm, List.getElem?_cons_succ]
  show (frs tToken src ++ [_])[j]? = _
  rw [List.getElem?_append_left (getElem?_lt hj)]; exact hj
 ·show 1 + _ < ((65, 3, 0) :: (frs tToken src ++ [(90, tToken.sz, src.length)])).length
  simp; omega
 ·repeat' first
   | exact trivial | refine wl_ ?_ ?_ ?_ ?_ | refine And.intro ?_ ?_ | with_reducible rfl | exact ble_ | refine AV.int_congr ?_ | refine AV.list_congr ?_ | (apply rfl)
 obtain ⟨i, F, ys⟩ := i
 obtain ⟨hi, hfr, hFl, us, hA, hus⟩ := hi
 simp only at hi hfr hFl hA hus ⊢
 have htl : (tks tToken src 1).length = src.length := length_tks _ _ _
 obtain ⟨F1, rfl⟩ := head_cons hA.hk
 rw [← hA.hl] at *
 by_cases hi' : i < src.length
 rotate_left
 ·have e : i = src.length := by omega
  subst e
  rw [List.take_length] at hA
  repeat' first
   | (conv => whnf
      first | refine Need.mk rfl ?_ | refine Fork.decN ?_)
  exact hA.final
 have hAl := hA.hl
 rw [List.length_map, List.length_take] at hAl
 generalize ha0 : src.getD i default = a
 have hai : src[i]? = some a := by rw [← ha0]; exact tToken_get hi'
 obtain ⟨m, hm⟩ : ∃ m, m = 1 + (frs tToken (src.take i)).length := ⟨_, rfl⟩
 have hget : (tks tToken src 1)[i]? = some (tToken.tk a m) := by rw [hm]; exact tks_get tToken 1 hai
 have hfs : frs tToken (src.take (i + 1)) = frs tToken (src.take i) ++ tToken.fr a := by
  rw [take_succ' default hi', ha0, frs_append]; simp [frs]
 have hix : (0 : Int) ≤ (i : Int) ∧ (tks tToken src 1)[((i : Nat) : Int).toNat]? = some (tToken.tk a m) ∧ (tToken.tk a m).length = 2 := ⟨by omega, by rw [Int.toNat_natCast]; exact hget, rfl⟩
 repeat' first
  | (conv => whnf
     first | refine Need.mk rfl ?_ | refine Need.mk ?_ ?_ | refine Ix.mk _ (fun _ => hix) ?_ | refine Fork.decY ?_ | refine Round.mk ?_ | refine Lit.read rfl ?_)
 ·intro c hc; rw [List.mem_singleton.1 hc]; rfl
 ·simp only [List.length_singleton]; omega
 generalize hG : (65, tMatch.sz, ys.length) :: F1 = G at *
 have hGp : 0 < G.length := by rw [← hG]; simp
 obtain ⟨vs, o1, o2, o3⟩ := tToken.tkOwn a (n := m) (F := G) (fun q y hq => by rw [hm, Nat.add_assoc]; exact hfr _ _ (frs_at tToken hai hq))
 have hA2 := hA.snoc (m := ys.length + 1) (r.1, a) (rowM r.1 (tToken.tk a m)) vs (by rw [hA.hl]) (OwnA.s r.1 o1) o2
  (fun j hj => ⟨by have := (o3 j hj).1; omega, fun hm' => by have := o3 j hj; have := hus j hm'; omega⟩)
 have e9 : ((src.take i).map fun t => (r.1, t)) ++ [(r.1, a)] = (src.take (i + 1)).map fun t => (r.1, t) := by rw [take_succ' default hi', ha0, List.map_append]; rfl
 rw [e9] at hA2
 refine ⟨(i + 1, _, _), ⟨by simp only; omega, fun j y hj => ?_, ?_, us ++ vs, hA2, fun u hu => ?_⟩, ?_, by simp only; omega⟩
 ·rw [List.getElem?_set, if_neg (by omega)]; exact hfr j y hj
 ·rw [List.length_set]; exact hFl
 ·rw [hfs, List.length_append]
  rcases List.mem_append.1 hu with hu | hu
  ·have := hus u hu; omega
  ·have := (o3 u hu).2; omega
 ·repeat' first
   | exact trivial | refine wl_ ?_ ?_ ?_ ?_ | refine And.intro ?_ ?_ | with_reducible rfl | exact ble_ | refine AV.int_congr ?_ | refine AV.list_congr ?_ | (apply rfl)
  rw [wrap64 (by omega) (by omega)]; rfl
def zm : List AV := [.str [], .val (.slice none 0 0), .val (.slice none 0 0)]
theorem rowsM_sz {nm : Str} {src : List VToken} {n : Nat} : ∀ x ∈ (tks tToken src n).map (rowM nm), x.length = 3 := fun x hx => by
 obtain ⟨c, hc, rfl⟩ := List.mem_map.1 hx
 rw [rowM, List.length_cons, tks_sz tToken src n c hc]; rfl
theorem rowsM_cell {nm : Str} {src : List VToken} {n : Nat} : ∀ x ∈ (tks tToken src n).map (rowM nm), ∀ c ∈ x, (∃ s, c = .str s) ∨ ∃ o ys, c = .list o ys := fun x hx c hc => by
 obtain ⟨d, hd, rfl⟩ := List.mem_map.1 hx
 rcases List.mem_cons.1 hc with rfl | hc
 ·exact .inl ⟨nm, rfl⟩
 ·obtain ⟨a, m, ha⟩ := tks_mem tToken (c := c) (List.mem_flatten.2 ⟨d, hd, hc⟩)
  have ha : c ∈ [AV.list (some (m + (frs tFct a.1).length)) (tks tFct a.1 m), .list (some (m + (tFcts.fr a.1).length)) (rows tPair a.2)] := ha
  rcases List.mem_cons.1 ha with rfl | ha
  ·exact .inr ⟨_, _, rfl⟩
  ·rw [List.mem_singleton.1 ha]; exact .inr ⟨_, _, rfl⟩
theorem partM_in (m : Nat) {nm : Str} {src : List VToken} {n : Nat} (i : Nat) : inB.inBL m (part zm ((tks tToken src n).map (rowM nm)) i) := by
 refine inBL_of fun c hc => ?_
 rw [part, List.mem_append] at hc
 rcases hc with h | h
 ·obtain ⟨x, hx, hc⟩ := List.mem_flatten.1 h
  rcases rowsM_cell x (List.mem_of_mem_take hx) c hc with ⟨_, rfl⟩ | ⟨_, _, rfl⟩ <;> trivial
 ·obtain ⟨x, hx, hc⟩ := List.mem_flatten.1 h
  rw [List.eq_of_mem_replicate hx] at hc
  rcases List.mem_cons.1 hc with rfl | hc
  ·trivial
  rcases List.mem_cons.1 hc with rfl | hc
  ·trivial
  ·rw [List.mem_singleton.1 hc]; trivial
theorem rowsM_nr {nm : Str} {src : List VToken} {n : Nat} : ∀ c ∈ ((tks tToken src n).map (rowM nm)).flatten, noRef c = true := fun c hc => by
 obtain ⟨x, hx, hc⟩ := List.mem_flatten.1 hc
 rcases rowsM_cell x hx c hc with ⟨_, rfl⟩ | ⟨_, _, rfl⟩ <;> rfl
theorem rowsM_own {nm : Str} {F : Fr} : ∀ (src : List VToken) (n : Nat), (∀ (i : Nat) x, (frs tToken src)[i]? = some x → F[n + i]? = some x) → ∃ us, OwnA F ((src.map fun t => (nm, t)).map tMatch.q).flatten ((tks tToken src n).map (rowM nm)).flatten us ∧ us.Perm (List.range' n (frs tToken src).length)
 | [], _, _ => ⟨[], .nil, .refl _⟩
 | a :: src, n, h => by
  obtain ⟨t1, h1, p1⟩ := tToken.hown a n F (fun i x hi => h i x (by rw [frs, List.flatMap_cons, List.getElem?_append_left (getElem?_lt hi)]; exact hi))
  obtain ⟨t2, h2, p2⟩ := rowsM_own src (n + (tToken.fr a).length) (fun i x hi => by
   have := h ((tToken.fr a).length + i) x (by rw [frs, List.flatMap_cons, List.getElem?_append_right (by omega), Nat.add_sub_cancel_left]; exact hi)
   rw [Nat.add_assoc]; exact this)
  refine ⟨t1 ++ t2, OwnA.append (OwnA.s nm h1) h2, ?_⟩
  rw [show frs tToken (a :: src) = tToken.fr a ++ frs tToken src from rfl, List.length_append, ← List.range'_append_1]
  exact p1.append p2
theorem rowsM_final (nm : Str) (src : List VToken) : ∃ us, OwnA (tTokens.fr src ++ [(65, 3, src.length)]) [matT (src.map fun t => (nm, t))] [.list (some (tTokens.fr src).length) ((tks tToken src 0).map (rowM nm))] us ∧ us.Nodup := by
 have hl : (tTokens.fr src).length = (frs tToken src).length + 1 := by rw [show tTokens.fr src = frs tToken src ++ [(90, tToken.sz, src.length)] from rfl]; simp
 obtain ⟨us, h1, p1⟩ := rowsM_own (nm := nm) (F := tTokens.fr src ++ [(65, 3, src.length)]) src 0 (fun i x hi => by
  rw [Nat.zero_add, List.getElem?_append_left (by have := getElem?_lt hi; omega)]
  show (frs tToken src ++ [_])[i]? = _
  rw [List.getElem?_append_left (getElem?_lt hi)]; exact hi)
 have hA : AccO tMatch 65 (tTokens.fr src).length (tTokens.fr src ++ [(65, 3, src.length)]) (src.map fun t => (nm, t)) ((tks tToken src 0).map (rowM nm)) us :=
  ⟨by rw [List.getElem?_append_right (Nat.le_refl _), Nat.sub_self, List.length_map]; rfl, by rw [List.length_map, List.length_map, length_tks], rowsM_sz, h1, p1.symm.nodup (List.nodup_range' _),
   fun hm => by have := (p1.mem_iff).1 hm; rw [List.mem_range'_1] at this; omega⟩
 exact hA.final
theorem pMatchesOf.own (r : VRule) (l : List Fct) (hr : tRule.size r ≤ 1048576) (h : tFcts.size l ≤ 1048576) : pMatchesOf.OwnN [.agg (oldL (tRule.q r)), .list none (facts l)] (matT (matchesF r l)) := by
 refine Abs.IrAt.ownP pMatchesOf.ir rfl ?_
 have hret := tTokens_canon.ret rfl rfl (pTokensOf.own r (r.2.2.1.length : Int) l hr h)
 have hcl : ((oldLL (r.2.2.1.map tCond.q)).length : Int) = (r.2.2.1.length : Int) := by rw [length_oldLL, List.length_map]
 have hlen : (tokensF r (r.2.2.1.length : Int) l).length ≤ 331776 := by
  rw [tokensF]
  split
  ·rename_i ho
   obtain ⟨i1, i2, _, _⟩ := tokOk_in ho
   exact toksF_len4 (areF_len i2) (rule_conds i1) _
  ·exact Nat.zero_le _
 unfold matchesF
 generalize tokensF r (r.2.2.1.length : Int) l = src at hret hlen
 rw [← hcl] at hret
 repeat' first
  | (conv => whnf
     first | refine nb_ ?_ | refine Need.mk ?_ ?_ | refine ACall.mk_TokenS _ _ (hret) (by repeat' first | exact SeesL.nil | refine SeesL.cons ?_ ?_ | exact SeesB.of0 (Sees0.val _) | exact SeesB.of0 (Sees0.str _) | exact SeesB.of0 (Sees0.olds _ _) | exact SeesB.of0 (Sees0.old _) | exact SeesB.of0 (Sees0.oldagg _) | exact SeesB.of0 Sees0.nil | exact Sees0.val _ | exact Sees0.str _ | exact Sees0.olds _ _ | exact Sees0.old _ | exact Sees0.oldagg _ | exact Sees0.nil | exact SeesB.of0 (Sees0.any _) | assumption | exact sees_gv _ _ _ (by assumption) (by first | assumption | exact BoxIn.last _ _ | exact BoxIn.more (BoxIn.last _ _) _) | refine SeesB.agg ?_ | refine Sees0.agg ?_ | exact SeesB.of0 (Sees0.clo SeesL.nil SeesL.nil) | exact Sees0.clo SeesL.nil SeesL.nil | exact SeesB.of0 (Sees0.list rfl) | exact Sees0.list rfl) ?_)
 ·rw [length_tks]; omega
 refine ALoop.mk Nat (fun i => ⟨[(2, .bptr 0 0), (6, .bsl 1 src.length), (18, .list (some (0 + (frs tToken src).length)) (tks tToken src 0)), (19, .val (.int .i64 src.length)), (20, .val (.int .i64 i))], [.cells .var (oldL (tRule.q r)), .cells (.row 65 3) (part zm ((tks tToken src 0).map (rowM r.1)) i)], tTokens.fr src⟩) (fun i => i ≤ src.length) (fun i => src.length - i) ⟨0, Nat.zero_le _, ?_⟩ (fun i hi => ?_)
 ·repeat' first
   | exact trivial | refine wl_ ?_ ?_ ?_ ?_ | refine And.intro ?_ ?_ | exact ble_ | refine AV.int_congr ?_ | refine AV.list_congr ?_ | refine AV.bsl_congr ?_ ?_ | (apply rfl)
  ·rw [length_tks, Int.toNat_natCast]
  ·rw [length_tks]
  ·simp only [List.nil_append, List.cons_append, List.length_cons, List.length_nil, List.take_succ_cons, List.take_zero]
   rw [part_made (xs := (tks tToken src 0).map (rowM r.1)) (sz := 3) rfl (by decide) (by rw [List.length_map, length_tks, Int.toNat_natCast])]; rfl
 have hml : ((tks tToken src 0).map (rowM r.1)).length = src.length := by rw [List.length_map, length_tks]
 have htl : (tks tToken src 0).length = src.length := length_tks _ _ _
 by_cases hi' : i < src.length
 rotate_left
 ·have hil : i = src.length := by omega
  subst hil
  have hall := part_all zm ((tks tToken src 0).map (rowM r.1))
  rw [hml] at hall
  rw [hall]
  repeat' first
   | (conv => whnf
      first | refine Need.mk rfl ?_ | refine Fork.decN ?_)
  conv => whnf
  refine FreezeD.flat (Freeze.mk ((tks tToken src 0).map (rowM r.1)) _ 65 3 rfl rfl hml rowsM_sz rowsM_nr ?_)
  skip
  exact rowsM_final r.1 src
 generalize ha0 : src.getD i default = a
 have hai : src[i]? = some a := by rw [← ha0]; exact tToken_get hi'
 obtain ⟨m, hm⟩ : ∃ m, m = (frs tToken (src.take i)).length := ⟨_, rfl⟩
 have hget : (tks tToken src 0)[i]? = some (tToken.tk a m) := by have := tks_get tToken 0 hai; rw [Nat.zero_add] at this; rw [hm]; exact this
 have hget2 : ((tks tToken src 0).map (rowM r.1))[i]? = some (rowM r.1 (tToken.tk a m)) := by rw [List.getElem?_map, hget]; rfl
 have hix : (0 : Int) ≤ (i : Int) ∧ (tks tToken src 0)[((i : Nat) : Int).toNat]? = some (tToken.tk a m) ∧ (tToken.tk a m).length = 2 := ⟨by omega, by rw [Int.toNat_natCast]; exact hget, rfl⟩
 repeat' first
  | (conv => whnf
     first | refine Need.mk rfl ?_ | refine Need.mk ⟨rfl, Nat.le_of_ble_eq_true rfl⟩ ?_ | refine nb_ ?_ | refine Need.finN ?_ | refine Need.mk ?_ ?_ | refine Ix.mk _ (fun _ => hix) ?_ | refine Fork.decY ?_ | refine Round.mk ?_)
 ·refine ⟨rfl, ?_⟩
  rw [part_len (sz := 3) rfl rowsM_sz (by omega), hml, Int.toNat_natCast]; omega
 ·refine ⟨i + 1, by omega, ?_, by omega⟩
  refine ⟨?_, ?_, ?_, Nat.le_of_ble_eq_true rfl, Or.inr ⟨⟨Nat.zero_lt_two, Nat.one_lt_two, trivial, trivial, trivial, trivial⟩, ⟨trivial, trivial, trivial, trivial, trivial⟩, partM_in _ (i + 1), trivial⟩⟩
  ·repeat' first
    | exact trivial | refine And.intro ?_ ?_ | with_reducible rfl | refine AV.int_congr ?_ | refine AV.list_congr ?_ | refine AV.bsl_congr ?_ ?_ | (apply rfl)
   rw [wrap64 (by omega) (by omega)]; rfl
  ·have := part_set (z := zm) (sz := 3) rfl rowsM_sz hget2
   exact congrArg (fun c => [ABox.cells .var (oldL (tRule.q r)), ABox.cells (.row 65 3) c]) this
  ·rfl
def allMF (rs : List VRule) (l : List Fct) : List VMatch := if areRF rs then rs.flatMap fun r => matchesF r l else []
theorem allM_succ {rs : List VRule} {l : List Fct} {i : Nat} (hi : i < rs.length) : (rs.take (i + 1)).flatMap (fun r => matchesF r l) = (rs.take i).flatMap (fun r => matchesF r l) ++ matchesF (rs.getD i default) l := by
 rw [take_succ' default hi, List.flatMap_append]; simp
theorem matchesF_le (r : VRule) (l : List Fct) : (matchesF r l).length ≤ 331776 := by
 rw [matchesF, List.length_map, tokensF]
 split
 ·rename_i ho
  obtain ⟨i1, i2, _, _⟩ := tokOk_in ho
  exact toksF_len4 (areF_len i2) (rule_conds i1) _
 ·exact Nat.zero_le _
theorem allM_le (l : List Fct) : ∀ rs : List VRule, (rs.flatMap fun r => matchesF r l).length ≤ 331776 * rs.length
 | [] => Nat.zero_le _
 | r :: rs => by
  have h1 := matchesF_le r l
  have h2 := allM_le l rs
  rw [List.flatMap_cons, List.length_append, List.length_cons]; omega
theorem matches_app {F1 : Fr} {acc : List VMatch} {ys : List (List AV)} {us : List Nat} {c : Nat × Nat × Nat} (hA : AccO tMatch 65 0 (c :: F1) acc ys us) (new : List VMatch) {m : Nat} (hm : m = ys.length + new.length) :
 ∃ vs, AccO tMatch 65 0 (((c :: F1) ++ tMatchs.fr new).set 0 (65, tMatch.sz, m)) (acc ++ new) (ys ++ tks tMatch new (c :: F1).length) vs := by
 obtain ⟨vs, o1, o2, o3⟩ := tksOwn tMatch new (n := (c :: F1).length) (F := (c :: F1) ++ tMatchs.fr new) (fun q y hq => by
  rw [List.getElem?_append_right (by omega), Nat.add_sub_cancel_left, show tMatchs.fr new = frs tMatch new ++ [(65, tMatch.sz, new.length)] from rfl, List.getElem?_append_left (getElem?_lt hq)]; exact hq)
 exact ⟨_, (hA.grow (tMatchs.fr new)).app (m := m) new (tks tMatch new (c :: F1).length) vs (by rw [hm, hA.hl]) (length_tks _ _ _) (tks_sz _ _ _) o1 o2
  (fun j hj => ⟨by have := (o3 j hj).1; rw [List.length_cons] at this; omega, fun hm => by have := hA.own.lt j hm; have := (o3 j hj).1; omega⟩)⟩
theorem sAllMatches.own (rs : List VRule) (l : List Fct) (hr : tRules.size rs ≤ 1048576) (h : tFcts.size l ≤ 1048576) : sAllMatches.Own [.list none (rows tRule rs), .list none (facts l)] (matT (allMF rs l)) := by
 refine Abs.IrAt.ownP sAllMatches.ir rfl ?_
 have hra := sAreRules.ret rs hr
 rw [tRules_sz] at hr
 unfold allMF
 have hrl : (rows tRule rs).length = rs.length := length_rows _ _
 cases hok : areRF rs with
 | false =>
  rw [hok] at hra
  rw [if_neg (by simp)]
  repeat' first
   | (conv => whnf
      first | refine Need.mk rfl ?_)
  refine ALoop.mk Unit (fun _ => ⟨[(0, .list none (rows tRule rs)), (1, .list none (facts l)), (5, .list (some 0) []), (6, .val (.int .i64 0))], [], [(65, 3, 0)]⟩) (fun _ => True) (fun _ => 0) ⟨(), trivial, ?_⟩ (fun i hi => ?_)
  ·repeat' first
    | exact trivial | refine wl_ ?_ ?_ ?_ ?_ | refine And.intro ?_ ?_ | with_reducible rfl | exact ble_ | refine fr1 ?_ | refine AV.int_congr ?_ | refine AV.list_congr ?_ | (apply rfl)
  repeat' first
   | (conv => whnf
      first | refine Need.mk (fun h => h) ?_ | refine Need.mk rfl ?_ | refine nb_ ?_ | refine Ix.mapF (fun _ => rfl) ?_ | refine Fork.mk (fun _ => ?_) (fun _ => ?_) | refine AGCall.mkA _ _ (fun hg => hra) rfl ?_)
  ·rename_i hc; exfalso; simp at hc
  skip
  exact (AccO.nil (T := tMatch) (t := 65) (k := 0) (F := [(65, 3, 0)]) rfl).final
 | true =>
  rw [hok] at hra
  rw [if_pos rfl]
  repeat' first
   | (conv => whnf
      first | refine Need.mk rfl ?_)
  refine ALoop.mk (Nat × Fr × List (List AV)) (fun i => ⟨[(0, .list none (rows tRule rs)), (1, .list none (facts l)), (5, .list (some 0) i.2.2), (6, .val (.int .i64 i.1))], [], i.2.1⟩) (fun i => i.1 ≤ rs.length ∧ ∃ us, AccO tMatch 65 0 i.2.1 ((rs.take i.1).flatMap fun r => matchesF r l) i.2.2 us) (fun i => rs.length - i.1) ⟨(0, [(65, 3, 0)], []), ⟨Nat.zero_le _, [], AccO.nil rfl⟩, ?_⟩ (fun i hi => ?_)
  ·repeat' first
    | exact trivial | refine wl_ ?_ ?_ ?_ ?_ | refine And.intro ?_ ?_ | with_reducible rfl | exact ble_ | refine fr1 ?_ | refine AV.int_congr ?_ | refine AV.list_congr ?_ | (apply rfl)
  obtain ⟨i, F, ys⟩ := i
  obtain ⟨hi, us, hA⟩ := hi
  simp only at hi hA ⊢
  obtain ⟨F1, rfl⟩ := head_cons hA.hk
  rw [← hA.hl] at *
  by_cases hi' : i < rs.length
  rotate_left
  ·have e : i = rs.length := by omega
   subst e
   rw [List.take_length] at hA
   repeat' first
    | (conv => whnf
       first | refine Need.mk (fun h => h) ?_ | refine Need.mk rfl ?_ | refine nb_ ?_ | refine Ix.mapN (fun _ => rfl) ?_ | refine Fork.mk (fun _ => ?_) (fun _ => ?_) | refine AGCall.mkA _ _ (fun hg => hra) rfl ?_)
   ·rename_i hc; exfalso; simp [hrl] at hc
   skip
   exact hA.final
  have hyl : ys.length ≤ 331776 * i := by
   have := allM_le l (rs.take i)
   rw [List.length_take] at this
   rw [hA.hl]
   exact Nat.le_trans this (Nat.mul_le_mul_left _ (Nat.min_le_left _ _))
  have hnl := matchesF_le (rs.getD i default) l
  have hm := tMatchs_canon.ret rfl rfl (sMatchesOf.own (rs.getD i default) l (by have := tRule_le hi'; omega) h)
  repeat' first
   | (conv => whnf
      first | refine Need.mk (fun h => h) ?_ | refine Need.mk rfl ?_ | refine nb_ ?_ | refine Need.mk ?_ ?_ | refine Ix.mapN (fun _ => rfl) ?_ | refine Fork.mk (fun _ => ?_) (fun _ => ?_) | refine Round.mk ?_ | refine AGCall.mkA _ _ (fun hg => hra) rfl ?_ | refine ACall.mk_MatchS _ _ (hm) (by repeat' first | exact SeesL.nil | refine SeesL.cons ?_ ?_ | exact SeesB.of0 (Sees0.val _) | exact SeesB.of0 (Sees0.str _) | exact SeesB.of0 (Sees0.olds _ _) | exact SeesB.of0 (Sees0.old _) | exact SeesB.of0 (Sees0.oldagg _) | exact SeesB.of0 Sees0.nil | exact Sees0.val _ | exact Sees0.str _ | exact Sees0.olds _ _ | exact Sees0.old _ | exact Sees0.oldagg _ | exact Sees0.nil | exact SeesB.of0 (Sees0.any _) | assumption | exact sees_gv _ _ _ (by assumption) (by first | assumption | exact BoxIn.last _ _ | exact BoxIn.more (BoxIn.last _ _) _) | refine SeesB.agg ?_ | refine Sees0.agg ?_ | exact SeesB.of0 (Sees0.clo SeesL.nil SeesL.nil) | exact Sees0.clo SeesL.nil SeesL.nil | exact SeesB.of0 (Sees0.list rfl) | exact Sees0.list rfl) ?_)
  ·exact tks_sz tMatch _ _
  ·rw [length_tks]; omega
  ·obtain ⟨vs, hA2⟩ := matches_app hA (matchesF (rs.getD i default) l) (m := ys.length + (tks tMatch (matchesF (rs.getD i default) l) ((65, tMatch.sz, ys.length) :: F1).length).length) (by rw [length_tks])
   rw [← allM_succ hi'] at hA2
   refine ⟨(i + 1, _, _), ⟨by simp only; omega, vs, hA2⟩, ?_, by simp only; omega⟩
   repeat' first
    | exact trivial | refine wl_ ?_ ?_ ?_ ?_ | refine And.intro ?_ ?_ | with_reducible rfl | exact ble_ | refine AV.int_congr ?_ | refine AV.list_congr ?_ | (apply rfl)
   rw [wrap64 (by omega) (by omega)]; rfl
  ·rename_i hc; exfalso
   simp [hrl, hi'] at hc
theorem pAllMatches.own (rs : List VRule) (l : List Fct) (hr : tRules.size rs ≤ 1048576) (h : tFcts.size l ≤ 1048576) : pAllMatches.OwnN [.list none (rows tRule rs), .list none (facts l)] (matT (allMF rs l)) := by
 refine Abs.IrAt.ownP pAllMatches.ir rfl ?_
 have hra := pAreRules.ret rs hr
 rw [tRules_sz] at hr
 unfold allMF
 have hrl : (rows tRule rs).length = rs.length := length_rows _ _
 cases hok : areRF rs with
 | false =>
  rw [hok] at hra
  rw [if_neg (by simp)]
  repeat' first
   | contradiction
   | (conv => whnf
      first | refine Need.mk rfl ?_ | refine Fork.neg (fun _ => ?_) (fun _ => ?_) | refine ACall.scalA _ _ (Ret.weak (hra)) rfl ?_)
  exact (AccO.nil (T := tMatch) (t := 65) (k := 0) (F := [(65, 3, 0)]) rfl).final
 | true =>
  rw [hok] at hra
  rw [if_pos rfl]
  repeat' first
   | contradiction
   | (conv => whnf
      first | refine Need.mk rfl ?_ | refine Fork.neg (fun _ => ?_) (fun _ => ?_) | refine ACall.scalA _ _ (Ret.weak (hra)) rfl ?_)
  refine ALoop.mk (Nat × Fr × List (List AV)) (fun i => ⟨[(1, .list none (facts l)), (5, .list (some 0) i.2.2), (13, .list none (rows tRule rs)), (14, .val (.int .i64 rs.length)), (15, .val (.int .i64 i.1))], [], i.2.1⟩) (fun i => i.1 ≤ rs.length ∧ ∃ us, AccO tMatch 65 0 i.2.1 ((rs.take i.1).flatMap fun r => matchesF r l) i.2.2 us) (fun i => rs.length - i.1) ⟨(0, [(65, 3, 0)], []), ⟨Nat.zero_le _, [], AccO.nil rfl⟩, ?_⟩ (fun i hi => ?_)
  ·repeat' first
    | exact trivial | refine wl_ ?_ ?_ ?_ ?_ | refine And.intro ?_ ?_ | with_reducible rfl | exact ble_ | refine fr1 ?_ | refine AV.int_congr ?_ | refine AV.list_congr ?_ | (apply rfl)
   rw [hrl]
  obtain ⟨i, F, ys⟩ := i
  obtain ⟨hi, us, hA⟩ := hi
  simp only at hi hA ⊢
  obtain ⟨F1, rfl⟩ := head_cons hA.hk
  rw [← hA.hl] at *
  by_cases hi' : i < rs.length
  rotate_left
  ·have e : i = rs.length := by omega
   subst e
   rw [List.take_length] at hA
   repeat' first
    | (conv => whnf
       first | refine Need.mk rfl ?_ | refine Fork.decN ?_)
   exact hA.final
  have hyl : ys.length ≤ 331776 * i := by
   have := allM_le l (rs.take i)
   rw [List.length_take] at this
   rw [hA.hl]
   exact Nat.le_trans this (Nat.mul_le_mul_left _ (Nat.min_le_left _ _))
  have hnl := matchesF_le (rs.getD i default) l
  have hm := tMatchs_canon.ret rfl rfl (pMatchesOf.own (rs.getD i default) l (by have := tRule_le hi'; omega) h)
  repeat' first
   | (conv => whnf
      first | refine Need.mk rfl ?_ | refine Need.mk ⟨rfl, Nat.le_of_ble_eq_true rfl⟩ ?_ | refine nb_ ?_ | refine Need.mk ?_ ?_ | refine Ix.mapN (fun _ => rfl) ?_ | refine Fork.decY ?_ | refine Round.mk ?_ | refine ACall.mk_MatchS _ _ (hm) (by repeat' first | exact SeesL.nil | refine SeesL.cons ?_ ?_ | exact SeesB.of0 (Sees0.val _) | exact SeesB.of0 (Sees0.str _) | exact SeesB.of0 (Sees0.olds _ _) | exact SeesB.of0 (Sees0.old _) | exact SeesB.of0 (Sees0.oldagg _) | exact SeesB.of0 Sees0.nil | exact Sees0.val _ | exact Sees0.str _ | exact Sees0.olds _ _ | exact Sees0.old _ | exact Sees0.oldagg _ | exact Sees0.nil | exact SeesB.of0 (Sees0.any _) | assumption | exact sees_gv _ _ _ (by assumption) (by first | assumption | exact BoxIn.last _ _ | exact BoxIn.more (BoxIn.last _ _) _) | refine SeesB.agg ?_ | refine Sees0.agg ?_ | exact SeesB.of0 (Sees0.clo SeesL.nil SeesL.nil) | exact Sees0.clo SeesL.nil SeesL.nil | exact SeesB.of0 (Sees0.list rfl) | exact Sees0.list rfl) ?_)
  ·exact tks_sz tMatch _ _
  ·rw [length_tks]; omega
  ·obtain ⟨vs, hA2⟩ := matches_app hA (matchesF (rs.getD i default) l) (m := ys.length + (tks tMatch (matchesF (rs.getD i default) l) ((65, tMatch.sz, ys.length) :: F1).length).length) (by rw [length_tks])
   rw [← allM_succ hi'] at hA2
   refine ⟨(i + 1, _, _), ⟨by simp only; omega, vs, hA2⟩, ?_, by simp only; omega⟩
   repeat' first
    | exact trivial | refine wr_ ?_ ?_ ?_ ?_ | refine And.intro ?_ ?_ | with_reducible rfl | exact ble_ | refine AV.int_congr ?_ | refine AV.list_congr ?_ | (apply rfl)
   rw [wrap64 (by omega) (by omega)]; rfl
open Abs
theorem match_sz {r : VRule} {l : List Fct} : ∀ m ∈ matchesF r l, tMatch.size m ≤ 296 := fun m hm => by
 obtain ⟨t, ht, rfl⟩ := List.mem_map.1 hm
 rw [tokensF] at ht
 split at ht
 ·rename_i ho
  obtain ⟨i1, i2, i3, i4⟩ := tokOk_in ho
  have hc := rule_conds i1
  have := goodT_size (areF_fact i2) (toksF_good l r.2.2.1 (r.2.2.1.length : Int).toNat (by omega) t ht) (by omega)
  have hn : r.1.length ≤ 8 := by
   unfold isRuleF nameF at i1
   simp only [Bool.and_eq_true] at i1
   exact atomF_le i1.1.1.1.1.1.1.1.1.1.1
  rw [tMatch_size]
  show r.1.length + (tFcts.size t.1 + tPairs.size t.2) ≤ _
  omega
 ·cases ht
theorem mget {ms : List VMatch} {i : Nat} (hi : i < ms.length) : ms.getD i default ∈ ms := by
 rw [List.getD_eq_getElem?_getD, List.getElem?_eq_getElem hi]; exact List.getElem_mem hi
open Abs
theorem matches_size (r : VRule) (l : List Fct) : listSize tMatch (matchesF r l) ≤ 296 * 331776 := listSize_sub tMatch (matchesF r l) (fun m hm => match_sz m hm) (matchesF_le r l)
theorem all_size (l : List Fct) : ∀ rs : List VRule, listSize tMatch (rs.flatMap fun r => matchesF r l) ≤ 296 * 331776 * rs.length
 | [] => Nat.zero_le _
 | r :: rs => by
  have h1 := matches_size r l
  have h2 := all_size l rs
  rw [List.flatMap_cons, List.length_cons]
  have e : ∀ a b : List VMatch, listSize tMatch (a ++ b) = listSize tMatch a + listSize tMatch b := fun a b => by
   induction a with
   | nil => simp [listSize]
   | cons x a ih => show tMatch.size x + listSize tMatch (a ++ b) = tMatch.size x + listSize tMatch a + _; rw [ih]; omega
  rw [e]; omega
theorem areRF_len {rs : List VRule} (h : areRF rs = true) : rs.length ≤ 6 := by
 unfold areRF at h
 simp only [Bool.and_eq_true, decide_eq_true_eq] at h
 omega
theorem all_small (rs : List VRule) (l : List Fct) : (allMF rs l).length ≤ 1990656 ∧ listSize tMatch (allMF rs l) ≤ 589234176 := by
 unfold allMF
 split
 ·rename_i h
  have h1 := allM_le l rs
  have h2 := all_size l rs
  have h3 := areRF_len h
  omega
 ·exact ⟨Nat.zero_le _, Nat.zero_le _⟩
theorem lawExactAllMatches.ret (a0 : List VRule) (a1 : List Fct) (hb0 : tRules.bd a0) (hb1 : tFcts.bd a1) : lawExactAllMatches.RetN [.list none (rows tRule a0), .list none (rows tFct a1)] (.val (.bool true)) [] :=
 lawExactAllMatches.of_own a0 a1 hb0 hb1 fun h => ⟨allMF a0 a1, by have h1 := all_small a0 a1; rw [tMatchs_sz]; omega,
  by have h1 := all_small a0 a1; have h3 := CnB.rows tMatch_cn (allMF a0 a1); show cnLL _ ≤ _; omega, sAllMatches.own a0 a1 (by omega) (by omega), pAllMatches.own a0 a1 (by omega) (by omega)⟩
def headSigns : List Nat := [104, 97, 114, 110, 101, 115, 115, 32, 98, 49, 54, 48, 102, 56, 100, 98, 102, 50, 49, 48, 48, 55, 56, 57, 48, 54, 98, 101, 101, 53, 97, 54, 100, 51, 99, 54, 50, 100, 52, 53, 101, 49, 102, 99, 99, 49, 56, 52, 50, 53, 50, 50, 100, 48, 98, 55, 98, 48, 48, 49, 49, 102, 50, 53, 54, 99, 48, 53, 99, 97, 50, 51, 32, 99, 117, 116, 32, 97, 116, 32, 108, 111, 111, 112, 46, 101, 120, 97, 109, 112, 108, 101, 47, 103, 48, 51, 48, 49, 53, 47, 108, 97, 119, 115, 46, 70, 110, 69, 120, 97, 99, 116, 84, 111, 107, 101, 110, 115, 79, 102, 32, 108, 111, 111, 112, 46, 101, 120, 97, 109, 112, 108, 101, 47, 103, 48, 51, 48, 49, 53, 47, 108, 97, 119, 115, 46, 70, 110, 69, 120, 97, 99, 116, 77, 97, 116, 99, 104, 101, 115, 79, 102, 32, 108, 111, 111, 112, 46, 101, 120, 97, 109, 112, 108, 101, 47, 103, 48, 51, 48, 49, 53, 47, 108, 97, 119, 115, 46, 70, 110, 69, 120, 97, 99, 116, 65, 108, 108, 77, 97, 116, 99, 104, 101, 115, 32, 108, 111, 111, 112, 46, 101, 120, 97, 109, 112, 108, 101, 47, 103, 48, 51, 48, 49, 53, 47, 108, 97, 119, 115, 46, 70, 110, 69, 120, 97, 99, 116, 73, 115, 77, 97, 116, 99, 104, 32, 108, 111, 111, 112, 46, 101, 120, 97, 109, 112, 108, 101, 47, 103, 48, 51, 48, 49, 53, 47, 108, 97, 119, 115, 46, 70, 110, 69, 120, 97, 99, 116, 68, 101, 101, 112, 101, 115, 116, 67, 111, 110, 100, 32, 108, 111, 111, 112, 46, 101, 120, 97, 109, 112, 108, 101, 47, 103, 48, 51, 48, 49, 53, 47, 108, 97, 119, 115, 46, 70, 110, 69, 120, 97, 99, 116, 84, 111, 107, 101, 110, 67, 111, 117, 110, 116, 115]
theorem Abs.head : Tryz.prog.initOrder = String.ofList (headSigns.map Char.ofNat) := by kernel_rfl
theorem Abs.signs : Tryz.prog.initOrder.toList = headSigns.map Char.ofNat := by rw [Abs.head, String.toList_ofList]
def headWords : List (List Nat) := [[99, 117, 116], [97, 116], [108, 111, 111, 112, 46, 101, 120, 97, 109, 112, 108, 101, 47, 103, 48, 51, 48, 49, 53, 47, 108, 97, 119, 115, 46, 70, 110, 69, 120, 97, 99, 116, 84, 111, 107, 101, 110, 115, 79, 102], [108, 111, 111, 112, 46, 101, 120, 97, 109, 112, 108, 101, 47, 103, 48, 51, 48, 49, 53, 47, 108, 97, 119, 115, 46, 70, 110, 69, 120, 97, 99, 116, 77, 97, 116, 99, 104, 101, 115, 79, 102], [108, 111, 111, 112, 46, 101, 120, 97, 109, 112, 108, 101, 47, 103, 48, 51, 48, 49, 53, 47, 108, 97, 119, 115, 46, 70, 110, 69, 120, 97, 99, 116, 65, 108, 108, 77, 97, 116, 99, 104, 101, 115], [108, 111, 111, 112, 46, 101, 120, 97, 109, 112, 108, 101, 47, 103, 48, 51, 48, 49, 53, 47, 108, 97, 119, 115, 46, 70, 110, 69, 120, 97, 99, 116, 73, 115, 77, 97, 116, 99, 104], [108, 111, 111, 112, 46, 101, 120, 97, 109, 112, 108, 101, 47, 103, 48, 51, 48, 49, 53, 47, 108, 97, 119, 115, 46, 70, 110, 69, 120, 97, 99, 116, 68, 101, 101, 112, 101, 115, 116, 67, 111, 110, 100], [108, 111, 111, 112, 46, 101, 120, 97, 109, 112, 108, 101, 47, 103, 48, 51, 48, 49, 53, 47, 108, 97, 119, 115, 46, 70, 110, 69, 120, 97, 99, 116, 84, 111, 107, 101, 110, 67, 111, 117, 110, 116, 115]]
theorem Abs.words : behindMainWord (wordsSigns (headSigns.map Char.ofNat)) = headWords.map fun w => w.map Char.ofNat := by kernel_rfl
theorem Abs.heads : behindMainWord (wordsSigns Tryz.prog.initOrder.toList) = headWords.map fun w => w.map Char.ofNat := by rw [Abs.signs, Abs.words]
theorem enters_gen (P : Program) (h : behindMainWord (wordsSigns P.initOrder.toList) = headWords.map fun w => w.map Char.ofNat) (h1 : P.laysLater = false) (h2 : P.bearsReflect = false) (h3 : P.doorFits [] = true) : P.mayEnter = true := by
 have h4 : stripLifts liftWords (headWords.map fun w => w.map Char.ofNat) = ([], headWords.map fun w => w.map Char.ofNat) := by kernel_rfl
 have h5 : (headWords.map fun w => w.map Char.ofNat) = (headWords.headD []).map Char.ofNat :: (headWords.tail.map fun w => w.map Char.ofNat) := rfl
 unfold Program.mayEnter
 rw [h, h1, h2, h5]
 simp only []
 rw [← h5, h4]
 simp only []
 rw [h3]
 rfl
theorem final_gen (P : Program) (h : behindMainWord (wordsSigns P.initOrder.toList) = headWords.map fun w => w.map Char.ofNat) : P.liftsFinal = false := by
 unfold Program.liftsFinal Program.headLifts
 rw [h]
 kernel_rfl
theorem made_gen (P : Program) (h : behindMainWord (wordsSigns P.initOrder.toList) = headWords.map fun w => w.map Char.ofNat) : P.make = some .cut := by
 unfold Program.make
 rw [h]
 rfl
theorem Abs.enters : Tryz.prog.mayEnter = true := enters_gen _ Abs.heads (by kernel_rfl) (by kernel_rfl) (by kernel_rfl)
theorem Abs.final : Tryz.prog.liftsFinal = false := final_gen _ Abs.heads
theorem Abs.made : Tryz.prog.make = some .cut := made_gen _ Abs.heads
theorem Abs.rowed : mapsRowed Tryz.prog = true := by kernel_rfl
theorem Abs.laidOut : laidOutB Tryz.prog = true := by kernel_rfl
def joinedLess (P : Program) (f : FuncId) (fn : Func) (s : ChangeSpec) (c : OpenClaim) (h1 : P.mayEnter = true) (h2 : P.liftsFinal = false) (h3 : P.make = some .cut) (h4 : mapsRowed P = true) (h5 : laidOutB P = true) : {b : Bool // joinedFacts P f fn s c = b} := by
 refine ⟨?b, ?h⟩
 case h =>
  unfold joinedFacts
  rw [h1, h2, h3, h4, h5]
theorem Abs.closed {f : FuncId} {fn : Func} {s : ChangeSpec} {c : OpenClaim} (h : (joinedLess Tryz.prog f fn s c Abs.enters Abs.final Abs.made Abs.rowed Abs.laidOut).1 = true) : joinedFacts Tryz.prog f fn s c = true :=
 (joinedLess Tryz.prog f fn s c Abs.enters Abs.final Abs.made Abs.rowed Abs.laidOut).2.trans h
end Go.Proofs.YtoindmahilbalaaGreat
namespace Go.Proofs.YtoindmahilbalaaGreat
namespace Abs
open Go.ChangeShapes Go.WideShapes Go.RowKit
def clF (P : Program) (g : TypeId → Option (List Cl)) : Nat → List Field → Option (List Cl)
 | _, [] => some []
 | off, f :: fs => match g f.type with
  | some cs => if f.offset = off ∧ cs.length = P.cellsOf f.type then
   (match clF P g (off + cs.length) fs with | some r => some (cs ++ r) | none => none) else none
  | none => none
def clOf (P : Program) : Nat → TypeId → Option (List Cl)
 | 0, _ => none
 | n + 1, t => match P.underlying t with
  | some .string => some [.str]
  | some .bool => some [.bool]
  | some (.int k) => some [.int k]
  | some (.slice e) => match clOf P n e with
   | some cs => if cs.length = P.cellsOf e ∧ 0 < P.cellsOf e then some [.sl e (P.cellsOf e) cs] else none
   | none => none
  | some (.struct fs) => match clF P (clOf P n) 0 fs.toList with
   | some cs => if cs.length = P.cellsOf t then some cs else none
   | none => none
  | _ => none
theorem Both.app {R : AV → Value → Prop} {xs ys : List AV} {us vs : List Value} (h : Both R xs us) (h' : Both R ys vs) : Both R (xs ++ ys) (us ++ vs) := by
 refine ⟨by simp [h.1, h'.1], fun i x v hx hv => ?_⟩
 rw [List.getElem?_append] at hx hv
 rw [h.1] at hx
 split at hx
 ·rename_i hi; rw [if_pos hi] at hv; exact h.2 i x v hx hv
 ·rename_i hi; rw [if_neg hi] at hv; exact h'.2 _ x v hx hv
def allF (w : World) (b : Nat) : Nat := match w.heap[b]? with | some (.cells c _ _) => c.size | _ => 0
theorem allF_out (w : World) (b : Nat) (h : w.heap.size ≤ b) : allF w b = 0 := by
 unfold allF; rw [Array.getElem?_eq_none h]
section
variable {H : Type} {enc : TypeId × Value → H} {P : Program} {w : World} {base : Nat} {spare : Nat → Bool} {held : Bool}
def Opens (B : Nat) (w : World) (cls : List Cl) (cs : List Value) : Prop :=
 ∃ trs, FitsL cls trs ∧ Both (Rep B w (allF w) [] [] []) (oldL trs) cs ∧ ∀ v ∈ cs, v.oneCell' = true
theorem Opens.one {B : Nat} {cl : Cl} {v : Value} (x : Tr) (h : FitsL [cl] [x]) (hr : Rep B w (allF w) [] [] [] (old x) v) (h1 : v.oneCell' = true) : Opens B w [cl] [v] :=
 ⟨[x], h, Both.cons.2 ⟨hr, rfl, by simp [oldL]⟩, by simp [h1]⟩
theorem open_fields {fuel : Nat} {cs : List Value} (B : Nat) (g : TypeId → Option (List Cl))
 (ih : ∀ t cs x cls, g t = some cls → DataW.trod enc P w base spare held fuel t cs = some x → Opens B w cls cs) :
 ∀ (fs : List Field) (off : Nat) (cls : List Cl), clF P g off fs = some cls → (∀ f ∈ fs, ∃ x, DataW.trod enc P w base spare held fuel f.type ((cs.drop f.offset).take (P.cellsOf f.type)) = some x) →
  Opens B w cls ((cs.drop off).take cls.length)
 | [], off, cls, h, _ => by
  simp only [clF, Option.some.injEq] at h
  subst h
  exact ⟨[], .nil, by simp [Both, oldL], by simp⟩
 | f :: fs, off, cls, h, hx => by
  unfold clF at h
  cases hg : g f.type with
  | none => rw [hg] at h; cases h
  | some c =>
   rw [hg] at h
   simp only at h
   split at h
   ·rename_i hc
    obtain ⟨rfl, hc⟩ := hc
    cases hr : clF P g (f.offset + c.length) fs with
    | none => rw [hr] at h; cases h
    | some r =>
     rw [hr] at h
     simp only [Option.some.injEq] at h
     subst h
     obtain ⟨x, hx1⟩ := hx f (by simp)
     obtain ⟨t1, f1, b1, o1⟩ := ih _ _ _ _ hg hx1
     obtain ⟨t2, f2, b2, o2⟩ := open_fields B g ih fs _ r hr (fun f' hf' => hx f' (by simp [hf']))
     have hsplit : (cs.drop f.offset).take (c ++ r).length = (cs.drop f.offset).take c.length ++ (cs.drop (f.offset + c.length)).take r.length := by
      rw [List.length_append, List.take_add, List.drop_drop]
     rw [hsplit, hc]
     rw [hc] at b2 o2
     refine ⟨t1 ++ t2, f1.append f2, ?_, fun v hv => ?_⟩
     ·rw [oldL_eq, List.map_append, ← oldL_eq, ← oldL_eq]; exact b1.app b2
     ·rcases List.mem_append.1 hv with h | h
      ·exact o1 v h
      ·exact o2 v h
   ·cases h
theorem open_cells (B : Nat) : ∀ (n fuel : Nat) (t : TypeId) (cs : List Value) (x : DataW H × List MemPlace) (cls : List Cl), clOf P n t = some cls → DataW.trod enc P w base spare held fuel t cs = some x → Opens B w cls cs
 | 0, _, _, _, _, _, h, _ => by cases h
 | n + 1, fuel, t, cs, x, cls, h, hx => by
  unfold clOf at h
  cases ht : P.underlying t with
  | none => rw [ht] at h; cases h
  | some u =>
   rw [ht] at h
   cases u with
   | string =>
    simp only [Option.some.injEq] at h; subst h
    obtain ⟨s, rfl, _, hs⟩ := DataW.trod_string ht hx
    exact Opens.one (.s s.data.toList) (.str _ hs .nil) (rep_string s) rfl
   | bool =>
    simp only [Option.some.injEq] at h; subst h
    cases fuel with
    | zero => simp [DataW.trod] at hx
    | succ m =>
     unfold DataW.trod at hx
     rw [ht] at hx
     split at hx <;> simp_all
     exact Opens.one (.v (.bool _)) (.bool _ .nil) (.val _) rfl
   | int k =>
    simp only [Option.some.injEq] at h; subst h
    obtain ⟨m, rfl, _, hm⟩ := DataW.trod_int ht hx
    exact Opens.one (.v (.int k m)) (.int _ _ hm .nil) (.val _) rfl
   | slice e =>
    simp only at h
    cases hc : clOf P n e with
    | none => rw [hc] at h; cases h
    | some c =>
     rw [hc] at h
     simp only at h
     split at h
     ·rename_i hsz
      obtain ⟨hsz, hpos⟩ := hsz
      simp only [Option.some.injEq] at h; subst h
      rcases Go.Deep.open_slice ht hx with ⟨rfl, _⟩ | ⟨a, len, cap, m, k, D, Pl, rfl, _, hl, hm, hmm, _, hel⟩
      ·refine Opens.one (.l e (P.cellsOf e) []) (.sl _ _ _ [] (Nat.zero_le _) hsz (by simp) .nil) ?_ rfl
       exact .list none [] none 0 0 0 0 (fun _ _ => undef) (Nat.le_refl _) (fun h => absurd rfl h) (by simp) (fun h => absurd rfl h) (by simp) (by simp) (fun k hk => by cases hk)
      ·have hlm : len ≤ m := by rw [hmm]; split <;> omega
       obtain ⟨T, hT⟩ := Go.Deep.choose_lt (α := List Value × List Tr) (n := len) (p := fun i q => w.cells? base (a.add (i * P.cellsOf e)) (P.cellsOf e) = some q.1 ∧ FitsL c q.2 ∧
        Both (Rep B w (allF w) [] [] []) (oldL q.2) q.1 ∧ ∀ v ∈ q.1, v.oneCell' = true) (fun i hi => by
        obtain ⟨cs', h1, h2⟩ := hel i (by omega)
        obtain ⟨trs, h3, h4, h5⟩ := open_cells B n k e cs' _ c hc h2
        exact ⟨(cs', trs), h1, h3, h4, h5⟩)
       have hlen : ((List.range len).map fun i => (T i).2).length = len := by simp
       refine Opens.one (.l e (P.cellsOf e) ((List.range len).map fun i => (T i).2)) (.sl _ _ _ _ (by rw [hlen]; omega) hsz (fun x hx => ?_) .nil) ?_ rfl
       ·obtain ⟨i, hi, rfl⟩ := List.mem_map.1 hx
        exact (hT i (List.mem_range.1 hi)).2.1
       ·have hol : (oldLL ((List.range len).map fun i => (T i).2)).length = len := by rw [length_oldLL, hlen]
        have hget : ∀ i e', (oldLL ((List.range len).map fun i => (T i).2))[i]? = some e' → i < len ∧ e' = oldL (T i).2 := by
         intro i e' he
         have hi : i < len := by have := getElem?_lt he; omega
         rw [oldLL_eq] at he
         simp [hi] at he
         exact ⟨hi, by rw [oldL_eq]; exact he.symm⟩
        have hlenT : ∀ i, i < len → (oldL (T i).2).length = P.cellsOf e := fun i hi => by rw [oldL_eq, List.length_map, (hT i hi).2.1.length, hsz]
        have hcell : ∀ i j, i < len → j < P.cellsOf e → w.cell? ⟨a.block, a.off + i * P.cellsOf e + j, none⟩ = (T i).1[j]? ∧ a.spot = none := by
         intro i j hi hj
         obtain ⟨_, hl', hc'⟩ := World.cells?_some (hT i hi).1
         have h0 : a.spot = none := by
          obtain ⟨_, hl0, hc0⟩ := World.cells?_some (hT 0 (by omega)).1
          have := hc0 0 hpos
          rw [List.getElem?_eq_getElem (by omega)] at this
          simp only [Nat.zero_mul, Addr.add, if_true] at this
          unfold World.cell? at this
          cases hs : a.spot with
          | none => rfl
          | some _ => rw [hs] at this; split at this <;> simp at this
         refine ⟨?_, h0⟩
         rw [← hc' j hj, Go.Deep.add_add]
         unfold Addr.add
         split
         ·rename_i hz
          rw [show a.off + i * P.cellsOf e + j = a.off by omega]
          cases a; simp only at h0; subst h0; rfl
         ·rw [Nat.add_assoc]
        have hrep := Rep.list (B := B) (w := w) (F := allF w) (tok := []) (fr := []) (box := []) none (oldLL ((List.range len).map fun i => (T i).2)) (some a) cap (P.cellsOf e) a.block a.off
         (fun i j => (T i).1.getD j undef) (by rw [hol]; exact hl)
         (fun hne => by
          have : 0 < len := by
           rcases Nat.eq_zero_or_pos len with h0 | h0
           ·subst h0; exact absurd rfl hne
           ·exact h0
          have := (hcell 0 0 this hpos).2
          cases a; simp only at this; subst this; rfl)
         (fun e' he' => by
          obtain ⟨i, hi⟩ := List.getElem?_of_mem he'
          obtain ⟨h1, h2⟩ := hget i e' hi
          rw [h2]; exact hlenT i h1)
         (fun hne => by
          have h0 : 0 < len := by
           rcases Nat.eq_zero_or_pos len with h0 | h0
           ·subst h0; exact absurd rfl hne
           ·exact h0
          rw [hol]
          have hc := (hcell (len - 1) (P.cellsOf e - 1) (by omega) (by omega)).1
          have hl1 : (T (len - 1)).1.length = P.cellsOf e := (World.cells?_some (hT (len - 1) (by omega)).1).2.1
          rw [List.getElem?_eq_getElem (by omega)] at hc
          unfold World.cell? at hc
          unfold allF
          simp only at hc
          split at hc
          ·simp only [Option.isSome_none, Bool.false_eq_true, if_false] at hc
           have hlt := (Array.getElem?_eq_some_iff.1 hc).1
           have hmul : (len - 1) * P.cellsOf e + P.cellsOf e = len * P.cellsOf e := by
            obtain ⟨q, rfl⟩ : ∃ q, len = q + 1 := ⟨len - 1, by omega⟩
            rw [Nat.add_sub_cancel, Nat.add_mul]; omega
           rename_i he
           rw [he]
           simp only
           omega
          ·cases hc)
         (fun i e' j c' hi hj => by
          obtain ⟨h1, rfl⟩ := hget i e' hi
          have hj' := getElem?_lt hj
          rw [hlenT i h1] at hj'
          have hl1 : (T i).1.length = P.cellsOf e := (World.cells?_some (hT i h1).1).2.1
          have hg : (T i).1[j]? = some ((T i).1.getD j undef) := by simp [List.getD, hl1, hj']
          exact ⟨by rw [(hcell i j h1 hj').1, hg], (hT i h1).2.2.2 _ (List.mem_of_getElem? hg)⟩)
         (fun i e' j c' hi hj => by
          obtain ⟨h1, rfl⟩ := hget i e' hi
          have hj' := getElem?_lt hj
          rw [hlenT i h1] at hj'
          have hl1 : (T i).1.length = P.cellsOf e := (World.cells?_some (hT i h1).1).2.1
          have hg : (T i).1[j]? = some ((T i).1.getD j undef) := by simp [List.getD, hl1, hj']
          exact (hT i h1).2.2.1.2 j c' _ hj hg)
         (fun k hk => by cases hk)
        rw [hol] at hrep
        exact hrep
     ·cases h
   | struct fs =>
    simp only at h
    cases hc : clF P (clOf P n) 0 fs.toList with
    | none => rw [hc] at h; cases h
    | some c =>
     rw [hc] at h
     simp only at h
     split at h
     ·rename_i hsz
      simp only [Option.some.injEq] at h; subst h
      obtain ⟨xs, m, rfl, _, hl, hfl, hel⟩ := DataW.trod_struct ht hx
      have := open_fields (fuel := m) (cs := cs) B (clOf P n) (fun t cs x cls h1 h2 => open_cells B n m t cs x cls h1 h2) fs.toList 0 c hc (fun f hf => by
       obtain ⟨i, hi⟩ := List.getElem?_of_mem hf
       have hi' : fs[i]? = some f := by simpa using hi
       have := hel i f hi'
       have hlt : i < xs.length := by have := getElem?_lt hi; simp at this; omega
       exact ⟨_, by rw [this, List.getElem?_eq_getElem hlt]⟩)
      rw [List.drop_zero, hsz, ← hl, List.take_length] at this
      exact this
     ·cases h
   | _ => simp only at h; cases h
theorem open_arg {t : TypeId} {v : Value} {d : DataW H} {ps : List MemPlace} {r : Reach} {b0 : Nat} (B n : Nat) {cl : Cl} (hc : clOf P n t = some [cl]) (hs : ∀ fs, P.underlying t ≠ some (.struct fs)) (hval : Value.okWide P w r b0 t v)
 (h : DataW.Trod enc P w base spare held t v d ps) : ∃ x, FitsL [cl] [x] ∧ Rep B w (allF w) [] [] [] (old x) v := by
 obtain ⟨fuel, h⟩ := h
 obtain ⟨trs, h1, h2, h3⟩ := open_cells B n fuel t _ _ _ hc h
 have hv : v.cells.toList = [v] := by
  cases v with
  | agg cs =>
   exfalso
   unfold Value.okWide at hval
   cases n with
   | zero => cases hc
   | succ n =>
    unfold clOf at hc
    cases hu : P.underlying t with
    | none => rw [hu] at hc; cases hc
    | some u =>
     rw [hu] at hc hval hs
     cases u <;> first | cases hc; done | exact absurd rfl (hs _) | (simp only [Cell.okWide, hu, Cell.ok] at hval)
  | _ => rfl
 rw [hv] at h2
 cases trs with
 | nil => exact absurd h1.length (by simp)
 | cons x xs =>
  cases xs with
  | cons _ _ => exact absurd h1.length (by simp)
  | nil => exact ⟨x, h1, (Both.cons.1 h2).1⟩
end
end Abs
end Go.Proofs.YtoindmahilbalaaGreat
namespace Go.Proofs.YtoindmahilbalaaGreat
namespace Abs
variable {mo : Bool}
open Go.ChangeShapes Go.WideShapes Go.ChangeAt Go.RowKit
section
variable {H : Type} {enc : TypeId × Value → H} {P : Program}
theorem trodAll_stays {base : Nat} (hl : laidOutB P = true) {W W' : World} {sp' : Nat → Bool} : ∀ {ts : List TypeId} {vs : List Value} {ds : List (DataW H)} {ps : List MemPlace},
 (∀ t ∈ ts, P.readableRec t = true ∧ t < P.types.size) → DataW.TrodAll enc P W base (fun _ => true) true ts vs ds ps → (∀ p ∈ ps, W.sameAt W' p) → (∀ p ∈ ps, sp' p.block = true) →
 DataW.TrodAll enc P W' base sp' true ts vs ds ps
 | [], [], [], _, _, h, _, _ => h
 | t :: ts, v :: vs, d :: ds, _, ht, h, hs, hp => by
  obtain ⟨p, q, h1, h2, rfl⟩ := h
  exact ⟨p, q, WideElems.Trod_stays hl (ht t (by simp)).1 (ht t (by simp)).2 h1 (fun x hx => hs x (by simp [hx])) (fun x hx => hp x (by simp [hx])),
   trodAll_stays hl (fun t h => ht t (by simp [h])) h2 (fun x hx => hs x (by simp [hx])) (fun x hx => hp x (by simp [hx])), rfl⟩
theorem law_post {f : Func} {s : ChangeSpec} {apart fresh handsOn again : Bool} {W W' : World} {args : Array Value} {ds gs : List (DataW H)} {before : List MemPlace} {tb : TypeId}
 (hl : laidOutB P = true) (hv : s.vars = []) (hp : ∀ t ∈ f.params.toList, P.readableRec t = true ∧ t < P.types.size) (hr : f.resultTypes = #[tb]) (htb : P.underlying tb = some .bool)
 (hW : DataW.Whole enc P f.params.toList s.vars apart W args.toList ds gs before) (hb : Bel mo W.heap.size W W')
 (hfn : s.fn H (ds ++ gs) = { results := [.lit (.bool true)], args := ds }) : s.post enc P f apart fresh handsOn again W args (.bool true) W' := by
 have hlt : ∀ p ∈ before, p.block < W.heap.size := fun p hp => hW.lt p hp
 have hW' := hW
 obtain ⟨p, q, hA, hV, hpq, hz, hn⟩ := hW
 rw [hv] at hV
 obtain ⟨hg, hq⟩ : gs = [] ∧ q = [] := trodVars_none hV
 subst hg; subst hq
 simp only [List.append_nil] at hpq hfn hz hn
 subst hpq
 have hargs : ∀ sp : Nat → Bool, (∀ x ∈ before, sp x.block = true) → DataW.TrodAll enc P W' 0 sp true f.params.toList args.toList ds before :=
  fun sp hsp => trodAll_stays hl hp hA (fun x hx => hb.same (hlt x hx)) hsp
 have hres : ∀ (b : Nat) (sp : Nat → Bool) (hd : Bool), DataW.TrodAll enc P W' b sp hd f.resultTypes.toList ((Value.bool true).resultList f.resultTypes.size) [.lit (.bool true)] [] := fun b sp hd => by
  rw [hr]
  exact trodAll_mk1 (shut_bool htb true)
 have hvars : ∀ sp : Nat → Bool, DataW.TrodVars enc P W' sp s.vars [] [] := fun sp => by rw [hv]; rfl
 have hfn' : s.fn H (ds ++ []) = { results := [.lit (.bool true)], args := ds } := by rw [List.append_nil]; exact hfn
 refine ⟨ds, [], before, [], before, [], hW', by rw [hfn']; exact hres _ _ _, by rw [hfn']; exact hargs _ (fun x hx => by simpa using hlt x hx), by rw [hfn']; exact hvars _, hb.frame _, fun _ => ?_⟩
 refine ⟨ok_one hr rfl (okWide_bool_mk htb true), _, _, ([] ++ before) ++ [], ⟨[] ++ before, [], trodAll_append (hargs _ (fun _ _ => rfl)) (hres _ _ _), hvars _, rfl, ?_, ?_⟩, ?_⟩
 ·intro b off hp'
  have hm : MemPlace.cell b off ∈ before := by simpa using hp'
  rw [hb.frozen (hlt _ hm)]
  exact hz b off hm
 ·intro ha
  simpa using hn ha
 ·intro x hx _
  simpa using hx
end
theorem law_ret {P : Program} {fid : Nat} {avs : List AV} {args : Array Value} {W : World} (h : Ret mo P fid avs (.val (.bool true)) []) (hB : Both (Rep W.heap.size W (allF W) [] [] []) avs args.toList) :
 Calls P fid args W fun e w' => e = .returned (.bool true) ∧ Bel mo W.heap.size W w' := by
 rw [Ret_eq] at h
 obtain ⟨_, hR⟩ := h
 refine (hR W (allF W) args (fun b hb => allF_out W b hb) hB).mono ?_
 rintro e W' ⟨v, F', tok, box, rfl, hb, _, _, _, _, _, hrep⟩
 cases hrep
 exact ⟨rfl, hb⟩
theorem both_nil {R : AV → Value → Prop} : Both R [] [] := ⟨rfl, by simp⟩
end Abs
theorem Abs.own : ownKnob Tryz.prog.godebug = none := by kernel_rfl
end Go.Proofs.YtoindmahilbalaaGreat
