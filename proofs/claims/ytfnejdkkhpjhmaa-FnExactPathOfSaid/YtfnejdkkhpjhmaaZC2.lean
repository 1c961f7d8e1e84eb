/-
  What stands below some laws' proofs, part 2: contracts of functions, by an evaluator.
-/
import Derived.Test.YtfnejdkkhpjhmaaZC1
namespace Go.Proofs.Ytfnejdkkhpjhmaa
open Abs
abbrev VAction := Int × VPattern
instance : DecidableEq VAction := instDecidableEqProd
def tAction : Ty VAction := Ty.pair Ty.int tPattern
theorem tAction_size (a : VAction) : tAction.size a = 0 + tPattern.size a.2 := rfl
theorem tAction_cn : CnB tAction 3 := CnB.pair CnB.int tPattern_cn
def tActions : Ty (List VAction) := Ty.list 152 tAction
theorem tActions_sz (l : List VAction) : tActions.size l = l.length + listSize tAction l := rfl
theorem tAction_get {l : List VAction} {i : Nat} (hi : i < l.length) : l[i]? = some (l.getD i default) := by simp [List.getD, hi]
theorem tAction_le {l : List VAction} {i : Nat} (hi : i < l.length) : tAction.size (l.getD i default) ≤ listSize tAction l := listSize_mem tAction (List.mem_of_getElem? (tAction_get hi))
theorem Abs.ACall.mk_Action {C : Con} {lend : Bool} {f : Nat} {vs : List AV} {b : List ABox} {fr : Fr} {k : AV → List ABox → Fr → Prop} (ys : List AV) (a : VAction) (h : C.ret f ys (.agg (tAction.tk a 0)) (tAction.fr a)) (hv : SeesL Sees0 vs ys)
    (hk : k (.agg (tAction.tk a fr.length)) b (fr ++ tAction.fr a)) : ACall C lend f vs b fr k := ACall.mkA tAction ys a h hv hk
theorem Abs.ACall.mk_ActionS {C : Con} {lend : Bool} {f : Nat} {vs : List AV} {b : List ABox} {fr : Fr} {k : AV → List ABox → Fr → Prop} (ys : List AV) (l : List VAction) (h : C.ret f ys (.list (some (0 + (frs tAction l).length)) (tks tAction l 0)) (tActions.fr l)) (hv : SeesL Sees0 vs ys)
    (hk : k (.list (some (fr.length + (frs tAction l).length)) (tks tAction l fr.length)) b (fr ++ tActions.fr l)) : ACall C lend f vs b fr k :=
  ACall.mkV tActions ys l (fun n => .list (some (n + (frs tAction l).length)) (tks tAction l n)) (fun _ => rfl) h hv hk
theorem toAction.ret (a : VAction) (h : tAction.size a ≤ 1048576) : toAction.Ret [.agg (oldL (tAction.q a))] (.agg (tAction.tk a 0)) (tAction.fr a) := by
  refine toAction.of rfl ?_
  rw [tAction_size] at h
  repeat' first
    | (conv => whnf
       first | refine Need.mk ⟨rfl, Nat.le_of_ble_eq_true rfl⟩ ?_ | refine Need.mk (Nat.le_of_ble_eq_true rfl) ?_ | refine FinAgg.keep ?_ | refine Final.mk rfl rfl | refine ACall.mk_Pattern _ _ (toPattern.ret _ ?_) (by repeat' first | exact SeesL.nil | refine SeesL.cons ?_ ?_ | exact SeesB.of0 (Sees0.val _) | exact SeesB.of0 (Sees0.str _) | exact SeesB.of0 (Sees0.olds _ _) | exact SeesB.of0 (Sees0.old _) | exact SeesB.of0 (Sees0.oldagg _) | exact SeesB.of0 Sees0.nil | exact Sees0.val _ | exact Sees0.str _ | exact Sees0.olds _ _ | exact Sees0.old _ | exact Sees0.oldagg _ | exact Sees0.nil | exact SeesB.of0 (Sees0.any _) | assumption | exact sees_gv _ _ _ (by assumption) (by first | assumption | exact BoxIn.last _ _ | exact BoxIn.more (BoxIn.last _ _) _) | refine SeesB.agg ?_ | refine Sees0.agg ?_ | exact SeesB.of0 (Sees0.clo SeesL.nil SeesL.nil) | exact Sees0.clo SeesL.nil SeesL.nil | exact SeesB.of0 (Sees0.list rfl) | exact Sees0.list rfl) ?_)
  all_goals first
    | omega
    | (refine congrArg AV.agg ?_
       repeat' first
         | refine cons_congr ?_ ?_
         | refine tok_congr ?_ ?_
         | refine congrArg (tks _ _) ?_
         | rfl
       all_goals (simp [Ty.pair, Ty.str, Ty.int, Ty.bool, Nat.add_assoc]; done))
    | (simp [tAction, Ty.pair, Ty.str, Ty.int, Ty.bool, List.append_assoc, Nat.add_assoc]; done)
theorem szAction.ret (f : VAction) (a : Int) (h0 : 0 ≤ a) (ha : a ≤ 1048576) (hb : tAction.bd f) :
    szAction.Ret [.agg (oldL (tAction.q f)), .val (.int .i64 a)] (.val (.int .i64 (left a (tAction.size f)))) [] := by
  refine szAction.of rfl ?_
  have hz := tAction_size f
  obtain ⟨hb0, hb1⟩ := hb
  by_cases c1 : a < (tPattern.size f.2 : Int)
  · have e0 : left a (tPattern.size f.2) = -1 := by rw [left, if_pos (by omega)]
    repeat' first
      | (conv => whnf
         first | refine Need.mk rfl ?_ | refine Need.mk (Nat.le_of_ble_eq_true rfl) ?_ | refine Fork.decYes (by omega) ?_ | refine LitO.own rfl ?_ | refine FinVal.keep ?_ | refine Final.mk ?_ rfl | refine ACall.scalA _ _ (szPattern.ret _ _ ?_ ?_ ?_) rfl ?_)
      | refine AV.int_congr ?_
    all_goals first
      | assumption
      | omega
      | exact left_eq (by omega)
  have e0 : left a (tPattern.size f.2) = a - (tPattern.size f.2 : Int) := by rw [left, if_neg (by omega)]
  repeat' first
    | (conv => whnf
       first | refine Need.mk rfl ?_ | refine Need.mk (Nat.le_of_ble_eq_true rfl) ?_ | refine Fork.decNo (by omega) ?_ | refine LitO.own rfl ?_ | refine FinVal.keep ?_ | refine Final.mk ?_ rfl | refine ACall.scalA _ _ (szPattern.ret _ _ ?_ ?_ ?_) rfl ?_)
    | refine AV.int_congr ?_
  all_goals first
    | assumption
    | omega
    | exact left_eq (by omega)
theorem eqAction.big (f g : VAction) (h : tAction.size f ≤ 1099511627775) : eqAction.Ret [.agg (oldL (tAction.q f)), .agg (oldL (tAction.q g))] (.val (.bool (decide (f = g)))) [] := by
  refine eqAction.of rfl ?_
  have hz := tAction_size f
  repeat' first
    | (conv => whnf
       first | refine Need.mk rfl ?_ | refine Need.mk (Nat.le_of_ble_eq_true rfl) ?_ | refine Fork.bne (fun _ => ?_) (fun _ => ?_) | refine Fork.neg (fun _ => ?_) (fun _ => ?_) | refine LitO.own rfl ?_ | refine FinVal.keep ?_ | refine Final.mk ?_ rfl | refine ACall.scalA _ _ (eqPattern.big _ _ ?_) rfl ?_)
    | refine AV.bool_congr ?_
  all_goals first
    | omega
    | (simp only [tStrs_size, tInts_size] at *; omega)
    | (obtain ⟨x0, ⟨x10, x11⟩⟩ := f; obtain ⟨y0, ⟨y10, y11⟩⟩ := g; simp_all)
theorem toActionS.ret (l : List VAction) (h : tActions.size l ≤ 1048576) : toActionS.Ret [.list none (rows tAction l)] (.list (some (0 + (frs tAction l).length)) (tks tAction l 0)) (tActions.fr l) := by
  refine toActionS.of rfl ?_
  rw [tActions_sz] at h
  repeat' first
    | (conv => whnf
       first | refine Need.fin ?_)
  refine ALoop.mk Nat (fun i => ⟨[(0, .list none (rows tAction l)), (3, .bsl 0 l.length), (4, .val (.int .i64 i))], [.cells (.row 152 3) (part [.val (.int .i64 0), .str [], .val (.slice none 0 0)] (tks tAction l 0) i)], frs tAction (l.take i)⟩) (fun i => i ≤ l.length) (fun i => l.length - i) ⟨0, Nat.zero_le _, ?_⟩ (fun i hi => ?_)
  · repeat' first
      | exact trivial | refine Weak.mk ?_ ?_ ?_ ?_ (Or.inl (Nat.le_of_ble_eq_true rfl)) | refine And.intro ?_ ?_ | with_reducible rfl | exact Nat.le_of_ble_eq_true rfl | refine AV.int_congr ?_ | refine AV.list_congr ?_ | refine AV.bsl_congr ?_ ?_ | (apply rfl)
    · simp
    · simp only [List.nil_append, List.length_cons, List.length_nil, List.take_succ_cons, List.take_zero]
      rw [part_made (xs := tks tAction l 0) (sz := 3) rfl (by decide) (by simp [length_tks])]; rfl
  repeat' first
    | (conv => whnf
       first | refine Need.mk rfl ?_ | refine Need.mk (Nat.le_of_ble_eq_true rfl) ?_ | refine Need.fin ?_ | refine Need.mk ?_ ?_ | refine Ix.mapF (fun _ => rfl) ?_ | refine Fork.dec (fun _ => ?_) (fun _ => ?_) | refine Round.mk ?_ | refine LitO.own rfl ?_ | refine ACall.mk_Action _ _ (toAction.ret _ ?_) (by repeat' first | exact SeesL.nil | refine SeesL.cons ?_ ?_ | exact SeesB.of0 (Sees0.val _) | exact SeesB.of0 (Sees0.str _) | exact SeesB.of0 (Sees0.olds _ _) | exact SeesB.of0 (Sees0.old _) | exact SeesB.of0 (Sees0.oldagg _) | exact SeesB.of0 Sees0.nil | exact Sees0.val _ | exact Sees0.str _ | exact Sees0.olds _ _ | exact Sees0.old _ | exact Sees0.oldagg _ | exact Sees0.nil | exact SeesB.of0 (Sees0.any _) | assumption | exact sees_gv _ _ _ (by assumption) (by first | assumption | exact BoxIn.last _ _ | exact BoxIn.more (BoxIn.last _ _) _) | refine SeesB.agg ?_ | refine Sees0.agg ?_ | exact SeesB.of0 (Sees0.clo SeesL.nil SeesL.nil) | exact Sees0.clo SeesL.nil SeesL.nil | exact SeesB.of0 (Sees0.list rfl) | exact Sees0.list rfl) ?_)
  · rename_i h1
    rw [length_rows] at h1
    have := listSize_mem tAction (List.mem_of_getElem? (tAction_get (l := l) (i := i) (by omega)))
    rw [Int.toNat_natCast]; omega
  · rename_i h1
    rw [length_rows] at h1
    rw [part_len (sz := 3) rfl (tks_sz tAction l 0) (by rw [length_tks]; exact hi), Int.toNat_natCast, length_tks]
    exact ⟨rfl, by omega⟩
  · rename_i h1
    rw [length_rows] at h1
    refine ⟨i + 1, by omega, ?_, by omega⟩
    repeat' first
      | exact trivial | refine Weak.mk ?_ ?_ ?_ ?_ (Or.inl (Nat.le_of_ble_eq_true rfl)) | refine And.intro ?_ ?_ | with_reducible rfl | exact Nat.le_of_ble_eq_true rfl | refine AV.int_congr ?_ | refine AV.list_congr ?_ | refine AV.bsl_congr ?_ ?_
    · rw [wrap64 (by omega) (by omega)]; rfl
    · have := part_set (z := [.val (.int .i64 0), .str [], .val (.slice none 0 0)]) (sz := 3) rfl (tks_sz tAction l 0) (tks_get tAction 0 (tAction_get (l := l) (i := i) (by omega)))
      rw [Nat.zero_add] at this
      simp only [List.set_cons_zero, List.take_succ_cons, List.take_zero, List.length_cons, List.length_nil, Int.toNat_natCast, this]
    · show frs tAction (l.take i) ++ tAction.fr (l.getD (i : Int).toNat default) = frs tAction (l.take (i + 1))
      rw [Int.toNat_natCast, take_succ' default (by omega), frs_append]; simp [frs]
  · rename_i h1
    rw [length_rows] at h1
    conv => whnf
    have : i = l.length := by omega
    subst this
    have hall := part_all [.val (.int .i64 0), .str [], .val (.slice none 0 0)] (tks tAction l 0)
    rw [length_tks] at hall
    refine FreezeD.flat (Freeze.mk (tks tAction l 0) _ 152 3 rfl hall (length_tks _ _ _) (tks_sz tAction l 0) (fun c hc => ?_) ?_)
    · rw [hall] at hc; exact tks_nr tAction l 0 c hc
    · refine Final.mk ?_ ?_
      · rw [List.take_length, Nat.zero_add]
      · rw [List.take_length]; rfl
theorem szActionS.ret (l : List VAction) (a : Int) (h0 : 0 ≤ a) (ha : a ≤ 1048576) (hb : tActions.bd l) :
    szActionS.Ret [.list none (rows tAction l), .val (.int .i64 a)] (.val (.int .i64 (left a (tActions.size l)))) [] := by
  refine szActionS.of rfl ?_
  obtain ⟨hl, hb⟩ := hb
  have hw : IntKind.i64.wrap (a - ((rows tAction l).length : Int)) = a - l.length := by rw [length_rows]; exact wrap64 (by omega) (by omega)
  have hz := tActions_sz l
  repeat' first
    | (conv => whnf
       first | refine Need.mk rfl ?_ | refine Fork.dec (fun _ => ?_) (fun _ => ?_) | refine LitO.own rfl ?_ | refine FinVal.keep ?_ | refine Final.mk ?_ rfl)
    | refine AV.int_congr ?_
  · rename_i h
    rw [hw] at h
    rw [left, if_pos (by omega)]
  rename_i h
  rw [hw] at h
  skip
  refine ALoop.mk Nat (fun i => ⟨[(0, .list none (rows tAction l)), (1, .val (.int .i64 (a - l.length - listSize tAction (l.take i)))), (5, .val (.int .i64 i))], [], []⟩) (fun i => i ≤ l.length ∧ (0 : Int) ≤ a - l.length - listSize tAction (l.take i)) (fun i => l.length - i) ⟨0, ⟨Nat.zero_le _, by simp [listSize]; omega⟩, ?_⟩ (fun i hi => ?_)
  · repeat' first
      | exact trivial | refine Weak.mk ?_ ?_ ?_ ?_ (Or.inl (Nat.le_of_ble_eq_true rfl)) | refine And.intro ?_ ?_ | with_reducible rfl | exact Nat.le_of_ble_eq_true rfl | refine AV.int_congr ?_ | refine AV.list_congr ?_ | (apply rfl)
    rw [hw]; simp [listSize]
  obtain ⟨hp1, hp2⟩ := hi
  have hle := listSize_take_le tAction l (i + 1)
  have hbi : i < l.length → tAction.bd (l.getD i default) := fun h => hb _ (List.mem_of_getElem? (tAction_get h))
  have hsz : i < l.length → listSize tAction (l.take (i + 1)) = listSize tAction (l.take i) + tAction.size (l.getD i default) := fun h => listSize_take_succ tAction (tAction_get h)
  repeat' first
    | (conv => whnf
       first | refine Need.mk rfl ?_ | refine Need.mk (Nat.le_of_ble_eq_true rfl) ?_ | refine Ix.mapF (fun _ => rfl) ?_ | refine Fork.dec (fun _ => ?_) (fun _ => ?_) | refine Round.mk ?_ | refine LitO.own rfl ?_ | refine FinVal.keep ?_ | refine Final.mk ?_ rfl | refine ACall.scalA _ _ (szAction.ret _ _ ?_ ?_ ?_) rfl ?_)
    | refine AV.int_congr ?_
  · exact hp2
  · omega
  · rename_i h1
    rw [length_rows] at h1
    rw [Int.toNat_natCast]; exact hbi (by omega)
  · rename_i h1 h2
    rw [length_rows] at h1
    rw [Int.toNat_natCast] at h2
    have := hsz (by omega)
    unfold left at h2 ⊢
    split at h2
    · rw [if_pos (by omega)]
    · omega
  · rename_i h1 h2
    rw [length_rows] at h1
    rw [Int.toNat_natCast] at h2
    have := hsz (by omega)
    have e : left (a - ↑l.length - ↑(listSize tAction (l.take i))) (tAction.size (l.getD i default)) = a - ↑l.length - ↑(listSize tAction (l.take (i + 1))) := by
      unfold left at h2 ⊢
      split at h2
      · omega
      · rw [if_neg ‹_›]; omega
    refine ⟨i + 1, ⟨by omega, ?_⟩, ?_, by omega⟩
    · rw [← e]; omega
    · repeat' first
        | exact trivial | refine Weak.mk ?_ ?_ ?_ ?_ (Or.inl (Nat.le_of_ble_eq_true rfl)) | refine And.intro ?_ ?_ | with_reducible rfl | exact Nat.le_of_ble_eq_true rfl | refine AV.int_congr ?_ | refine AV.list_congr ?_ | (apply rfl)
      · rw [Int.toNat_natCast]; exact e
      · rw [wrap64 (by omega) (by omega)]; rfl
  · rename_i h1
    rw [length_rows] at h1
    rw [List.take_of_length_le (by omega)] at hp2 ⊢
    rw [left, if_neg (by omega)]; omega
theorem eqActionS.big (l m : List VAction) (h : tActions.size l ≤ 1099511627775) : eqActionS.Ret [.list none (rows tAction l), .list none (rows tAction m)] (.val (.bool (decide (l = m)))) [] := by
  refine eqActionS.of rfl ?_
  rw [tActions_sz] at h
  repeat' first
    | (conv => whnf
       first | refine Need.mk rfl ?_ | refine Fork.bne (fun _ => ?_) (fun _ => ?_) | refine LitO.own rfl ?_ | refine FinVal.keep ?_ | refine Final.mk ?_ rfl)
    | refine AV.bool_congr ?_
  · rename_i h
    rw [length_rows, length_rows] at h
    have h3 : ¬ l = m := fun e => h (by rw [e])
    simp [h3]
  rename_i h
  rw [length_rows, length_rows] at h
  have h : l.length = m.length := by omega
  skip
  refine ALoop.mk Nat (fun i => ⟨[(0, .list none (rows tAction l)), (1, .list none (rows tAction m)), (5, .val (.int .i64 i))], [], []⟩) (fun i => i ≤ l.length ∧ l.take i = m.take i) (fun i => l.length - i) ⟨0, ⟨Nat.zero_le _, rfl⟩, ?_⟩ (fun i hi => ?_)
  · repeat' first
      | exact trivial | refine Weak.mk ?_ ?_ ?_ ?_ (Or.inl (Nat.le_of_ble_eq_true rfl)) | refine And.intro ?_ ?_ | with_reducible rfl | exact Nat.le_of_ble_eq_true rfl | refine AV.int_congr ?_ | refine AV.list_congr ?_ | (apply rfl)
  repeat' first
    | (conv => whnf
       first | refine Need.mk rfl ?_ | refine Need.mk (Nat.le_of_ble_eq_true rfl) ?_ | refine Ix.mapF (fun _ => rfl) ?_ | refine Fork.dec (fun _ => ?_) (fun _ => ?_) | refine Fork.neg (fun _ => ?_) (fun _ => ?_) | refine Round.mk ?_ | refine LitO.own rfl ?_ | refine FinVal.keep ?_ | refine Final.mk ?_ rfl | refine AQCall.mkA _ _ (fun hg => eqAction.big _ _ ?_) rfl ?_)
    | refine AV.bool_congr ?_
  · rename_i h1
    rw [length_rows] at h1
    have := listSize_mem tAction (List.mem_of_getElem? (tAction_get (l := l) (i := i) (by omega)))
    rw [Int.toNat_natCast]; omega
  · rename_i h1 h2
    have h3 : ¬ l = m := fun e => of_decide_eq_false h2 (by rw [e])
    simp [h3]
  · rename_i h1 h2
    rw [length_rows] at h1
    rw [Int.toNat_natCast] at h2
    refine ⟨i + 1, ⟨by omega, ?_⟩, ?_, by omega⟩
    · rw [take_succ' default (by omega), take_succ' (l := m) default (by omega), hi.2, of_decide_eq_true h2]
    · repeat' first
        | exact trivial | refine Weak.mk ?_ ?_ ?_ ?_ (Or.inl (Nat.le_of_ble_eq_true rfl)) | refine And.intro ?_ ?_ | with_reducible rfl | exact Nat.le_of_ble_eq_true rfl | refine AV.int_congr ?_ | refine AV.list_congr ?_ | (apply rfl)
      rw [wrap64 (by omega) (by omega)]; rfl
  · rename_i h1
    rw [length_rows] at h1
    have h2 := hi.2
    rw [List.take_of_length_le (by omega), List.take_of_length_le (by omega)] at h2
    simp [h2]
theorem markActionS.tn (l : List VAction) (k : Nat) (hs : tActions.size l ≤ 1099511627775) (hk : k + cn (.l 152 3 (l.map tAction.q)) ≤ 1099511627775) :
    markActionS.Turn (gb (.l 152 3 (l.map tAction.q)) 0) [gv (.l 152 3 (l.map tAction.q)) 0, .val (.int .i64 k)] (.val (.int .i64 ((k + cn (.l 152 3 (l.map tAction.q)) : Nat)))) (gb (mk (.l 152 3 (l.map tAction.q)) k) 0) := by
  refine markActionS.ofT rfl rfl (by rw [length_gb, nb_mk]) ?_
  obtain ⟨cs, hcs⟩ : ∃ cs, cs = (l.map tAction.q).flatten := ⟨_, rfl⟩
  have hlen : cs.length = l.length * 3 := by rw [hcs]; exact flat_len _ 3 tAction.hq l
  have hc0 : ∀ i, i < l.length → cs[i * 3 + 0]? = some (.v (.int .i64 (l.getD i default).1)) := fun i hi => by rw [hcs]; exact cell_at tAction.q 3 tAction.hq hi rfl
  have hc1 : ∀ i, i < l.length → cs[i * 3 + 1]? = some (.s (l.getD i default).2.1) := fun i hi => by rw [hcs]; exact cell_at tAction.q 3 tAction.hq hi rfl
  have hc2 : ∀ i, i < l.length → cs[i * 3 + 2]? = some (.l 9 1 ((l.getD i default).2.2.map Ty.str.q)) := fun i hi => by rw [hcs]; exact cell_at tAction.q 3 tAction.hq hi rfl
  rw [gb_mk_l0, gb_l0, cn_l, gv, List.length_map, ← hcs]
  rw [cn_l, ← hcs] at hk
  clear hcs
  skip
  refine ALoop.mk Nat (fun i => ⟨[(0, .bsl 0 l.length), (1, .val (.int .i64 ((k + cnC (cs.take (i * 3)) : Nat)))), (5, .val (.int .i64 i))], .cells (.row 152 3) (gvL (st cs k (i * 3)) 1) :: gbL (st cs k (i * 3)) 1, []⟩) (fun i => i ≤ l.length) (fun i => l.length - i) ⟨0, Nat.zero_le _, ?_⟩ (fun i hi => ?_)
  · refine weak_st ⟨rfl, ?_, rfl, trivial⟩ ?_ ?_ rfl ?_
    · rw [Nat.zero_mul]; rfl
    · rw [Nat.zero_mul, st_zero]
    · rw [Nat.zero_mul, st_zero]
    · rw [Nat.zero_mul, st_zero, List.length_cons]; exact Nat.le_refl _
  have hle := cn_take_le cs (i * 3)
  rw [tActions_sz] at hs
  rcases Nat.lt_or_ge i l.length with hlt | hge
  rotate_left
  · have hiw : i * 3 = cs.length := by omega
    repeat' first
      | (conv => whnf
         first | refine Need.mk rfl ?_ | refine Fork.decNo (by omega) ?_ | refine forceBx_of ?_ | refine LitO.own rfl ?_ | refine FinalT.mk ?_ ?_)
      | refine AV.int_congr ?_
    · rw [hiw, List.take_length]
    · rw [hiw, st_all cs k rfl]; exact take_all (by rw [List.length_cons, List.length_cons, length_gbL, length_gbL, nbL_mkC]; exact Nat.le_refl _)
  have hi1 : (i + 1) * 3 = i * 3 + 3 := by omega
  have hsz := tAction_le hlt
  have hz17 := tAction_size (l.getD i default)
  have hz18 := tPattern_size (l.getD i default).2
  have l0 := cn_take_le cs (i * 3 + 1)
  have n0 : cnC (cs.take (i * 3 + 1)) = cnC (cs.take (i * 3)) + 1 := cn_succ (hc0 i hlt)
  have w0 : IntKind.i64.wrap (((k + cnC (cs.take (i * 3)) : Nat) : Int) + 1) = ((k + cnC (cs.take (i * 3 + 1)) : Nat) : Int) := by rw [wrap64 (by omega) (by omega)]; omega
  have b0 : gbL (st cs k (i * 3 + 1)) 1 = gbL (st cs k (i * 3)) 1 := gbL_st k 1 (hc0 i hlt) rfl
  have g0 : gvL (st cs k (i * 3 + 1)) 1 = (gvL (st cs k (i * 3)) 1).set (i * 3) (.val (.int .i64 (((k + cnC (cs.take (i * 3)) : Nat) : Int)))) := gvL_st k 1 (hc0 i hlt)
  have l1 := cn_take_le cs (i * 3 + 2)
  have n1 : cnC (cs.take (i * 3 + 2)) = cnC (cs.take (i * 3 + 1)) + 1 := cn_succ (hc1 i hlt)
  have w1 : IntKind.i64.wrap (IntKind.i64.wrap (((k + cnC (cs.take (i * 3)) : Nat) : Int) + 1) + 1) = ((k + cnC (cs.take (i * 3 + 2)) : Nat) : Int) := by rw [w0, wrap64 (by omega) (by omega)]; omega
  have b1 : gbL (st cs k (i * 3 + 2)) 1 = gbL (st cs k (i * 3 + 1)) 1 := gbL_st k 1 (hc1 i hlt) rfl
  have g1 : gvL (st cs k (i * 3 + 2)) 1 = (gvL (st cs k (i * 3 + 1)) 1).set (i * 3 + 1) (.str (markF (k + cnC (cs.take (i * 3 + 1))))) := gvL_st k 1 (hc1 i hlt)
  repeat' first
    | (conv => whnf
       first | refine Need.mk rfl ?_ | refine Need.fin ?_ | refine Need.mk ⟨rfl, by simp only [length_setAt, List.length_set, length_gvL, length_st, Int.toNat_natCast]; omega⟩ ?_ | refine Fork.decYes (by omega) ?_ | refine forceBx_of ?_ | refine LitO.own rfl ?_)
  conv => whnf
  refine ACall.scal [.val (.int .i64 ((k + cnC (cs.take (i * 3 + 1)) : Nat)))] _ (markText.ret (k + cnC (cs.take (i * 3 + 1))) (by omega)) rfl (.cons (SeesB.of0 (by rw [w0]; exact Sees0.val _)) .nil) ?_
  repeat' first
    | (conv => whnf
       first | refine Need.mk rfl ?_ | refine Need.fin ?_ | refine Need.mk ⟨rfl, by simp only [length_setAt, List.length_set, length_gvL, length_st, Int.toNat_natCast]; omega⟩ ?_ | refine LitO.own rfl ?_)
  have l2 := cn_take_le cs (i * 3 + 3)
  have n2 : cnC (cs.take (i * 3 + 3)) = cnC (cs.take (i * 3 + 2)) + cn (.l 9 1 ((l.getD i default).2.2.map Ty.str.q)) := cn_succ (hc2 i hlt)
  have g2 : gvL (st cs k (i * 3 + 3)) 1 = gvL (st cs k (i * 3 + 2)) 1 := gvL_stL k 1 (hc2 i hlt)
  have t2 : markStringS.Turn (gb (.l 9 1 ((l.getD i default).2.2.map Ty.str.q)) 0) [gv (.l 9 1 ((l.getD i default).2.2.map Ty.str.q)) 0, .val (.int .i64 ((k + cnC (cs.take (i * 3 + 2)) : Nat)))] (.val (.int .i64 ((k + cnC (cs.take (i * 3 + 3)) : Nat)))) (gb (mk (.l 9 1 ((l.getD i default).2.2.map Ty.str.q)) (k + cnC (cs.take (i * 3 + 2)))) 0) := by
    have h := markStringS.tn (l.getD i default).2.2 (k + cnC (cs.take (i * 3 + 2))) (by omega) (by omega)
    rw [Nat.add_assoc, ← n2] at h; exact h
  have d2 : (((gvL (st cs k (i * 3)) 1).set (i * 3) (.val (.int .i64 (((k + cnC (cs.take (i * 3)) : Nat) : Int))))).set (i * 3 + 1) (.str (markF (k + cnC (cs.take (i * 3 + 1)))))).drop (i * 3 + 2) = gv (.l 9 1 ((l.getD i default).2.2.map Ty.str.q)) (1 + nbL (cs.take (i * 3 + 2))) :: gvL (cs.drop (i * 3 + 2 + 1)) (1 + nbL (cs.take (i * 3 + 2)) + nb (.l 9 1 ((l.getD i default).2.2.map Ty.str.q))) := by
    have h := ld_st k 1 (hc2 i hlt)
    try simp only [Nat.add_zero] at h
    rw [g1, g0] at h
    exact h
  conv => whnf
  refine takeAV_one (n := 1) _ _ d2 ?_
  conv => whnf
  refine ACall.turn' (.cells (.row 152 3) (((gvL (st cs k (i * 3)) 1).set (i * 3) (.val (.int .i64 (((k + cnC (cs.take (i * 3)) : Nat) : Int))))).set (i * 3 + 1) (.str (markF (k + cnC (cs.take (i * 3 + 1)))))) :: gbL (st cs k (i * 3 + 3)) 1) [gv (.l 9 1 ((l.getD i default).2.2.map Ty.str.q)) 0, .val (.int .i64 ((k + cnC (cs.take (i * 3 + 2)) : Nat)))] (.l 9 1 ((l.getD i default).2.2.map Ty.str.q)) (mk (.l 9 1 ((l.getD i default).2.2.map Ty.str.q)) (k + cnC (cs.take (i * 3 + 2)))) _ (.cells (.row 152 3) (((gvL (st cs k (i * 3)) 1).set (i * 3) (.val (.int .i64 (((k + cnC (cs.take (i * 3)) : Nat) : Int))))).set (i * 3 + 1) (.str (markF (k + cnC (cs.take (i * 3 + 1)))))) :: gbL (mkC (cs.take (i * 3 + 2)) k) 1) (gbL (cs.drop (i * 3 + 2 + 1)) (1 + nbL (cs.take (i * 3 + 2)) + nb (.l 9 1 ((l.getD i default).2.2.map Ty.str.q)))) t2 rfl ?_ (nb_mk _ _) (.cons (.inl ⟨by rw [pre_st]; rfl, rfl⟩) (.cons (.inr (by rw [w1]; exact Sees0.val _)) .nil)) ?_ ?_
  · rw [← b0]; rw [← b1]; exact bx_st k (hc2 i hlt) _
  · exact bx_st' k (hc2 i hlt) _
  repeat' first
    | (conv => whnf
       first | refine Need.mk rfl ?_ | refine Round.mk ?_ | refine LitO.own rfl ?_)
  refine ⟨i + 1, by omega, weak_st ⟨rfl, AV.int_congr ?_, AV.int_congr ?_, trivial⟩ (congrArg (ABox.cells (.row 152 3)) ?_) ?_ rfl ?_, by omega⟩
  · rw [hi1]
  · rw [wrap64 (by omega) (by omega)]; rfl
  · rw [hi1, g2, g1, g0]
    try rfl
  · rw [hi1]
  · simp only [hi1, List.length_cons, length_gbL, nbL_st, Nat.le_refl]
end Go.Proofs.Ytfnejdkkhpjhmaa
namespace Go.Proofs.Ytfnejdkkhpjhmaa
open Abs
abbrev VRule := Str × Int × List VCond × List VAction
instance : DecidableEq VRule := instDecidableEqProd
def tRule : Ty VRule := Ty.pair Ty.str (Ty.pair Ty.int (Ty.pair tConds tActions))
theorem tRule_size (a : VRule) : tRule.size a = a.1.length + (0 + (tConds.size a.2.2.1 + tActions.size a.2.2.2)) := rfl
theorem tRule_cn : CnB tRule 10 := CnB.pair CnB.str (CnB.pair CnB.int (CnB.pair (CnB.list tCond_cn _) (CnB.list tAction_cn _)))
def tRules : Ty (List VRule) := Ty.list 110 tRule
theorem tRules_sz (l : List VRule) : tRules.size l = l.length + listSize tRule l := rfl
theorem tRule_get {l : List VRule} {i : Nat} (hi : i < l.length) : l[i]? = some (l.getD i default) := by simp [List.getD, hi]
theorem tRule_le {l : List VRule} {i : Nat} (hi : i < l.length) : tRule.size (l.getD i default) ≤ listSize tRule l := listSize_mem tRule (List.mem_of_getElem? (tRule_get hi))
theorem Abs.ACall.mk_Rule {C : Con} {lend : Bool} {f : Nat} {vs : List AV} {b : List ABox} {fr : Fr} {k : AV → List ABox → Fr → Prop} (ys : List AV) (a : VRule) (h : C.ret f ys (.agg (tRule.tk a 0)) (tRule.fr a)) (hv : SeesL Sees0 vs ys)
    (hk : k (.agg (tRule.tk a fr.length)) b (fr ++ tRule.fr a)) : ACall C lend f vs b fr k := ACall.mkA tRule ys a h hv hk
theorem Abs.ACall.mk_RuleS {C : Con} {lend : Bool} {f : Nat} {vs : List AV} {b : List ABox} {fr : Fr} {k : AV → List ABox → Fr → Prop} (ys : List AV) (l : List VRule) (h : C.ret f ys (.list (some (0 + (frs tRule l).length)) (tks tRule l 0)) (tRules.fr l)) (hv : SeesL Sees0 vs ys)
    (hk : k (.list (some (fr.length + (frs tRule l).length)) (tks tRule l fr.length)) b (fr ++ tRules.fr l)) : ACall C lend f vs b fr k :=
  ACall.mkV tRules ys l (fun n => .list (some (n + (frs tRule l).length)) (tks tRule l n)) (fun _ => rfl) h hv hk
theorem toRule.ret (a : VRule) (h : tRule.size a ≤ 1048576) : toRule.Ret [.agg (oldL (tRule.q a))] (.agg (tRule.tk a 0)) (tRule.fr a) := by
  refine toRule.of rfl ?_
  rw [tRule_size] at h
  repeat' first
    | (conv => whnf
       first | refine Need.mk ⟨rfl, Nat.le_of_ble_eq_true rfl⟩ ?_ | refine Need.mk (Nat.le_of_ble_eq_true rfl) ?_ | refine FinAgg.keep ?_ | refine Final.mk ?_ rfl | refine ACall.mk_CondS _ _ (toCondS.ret _ ?_) (by repeat' first | exact SeesL.nil | refine SeesL.cons ?_ ?_ | exact SeesB.of0 (Sees0.val _) | exact SeesB.of0 (Sees0.str _) | exact SeesB.of0 (Sees0.olds _ _) | exact SeesB.of0 (Sees0.old _) | exact SeesB.of0 (Sees0.oldagg _) | exact SeesB.of0 Sees0.nil | exact Sees0.val _ | exact Sees0.str _ | exact Sees0.olds _ _ | exact Sees0.old _ | exact Sees0.oldagg _ | exact Sees0.nil | exact SeesB.of0 (Sees0.any _) | assumption | exact sees_gv _ _ _ (by assumption) (by first | assumption | exact BoxIn.last _ _ | exact BoxIn.more (BoxIn.last _ _) _) | refine SeesB.agg ?_ | refine Sees0.agg ?_ | exact SeesB.of0 (Sees0.clo SeesL.nil SeesL.nil) | exact Sees0.clo SeesL.nil SeesL.nil | exact SeesB.of0 (Sees0.list rfl) | exact Sees0.list rfl) ?_ | refine ACall.mk_ActionS _ _ (toActionS.ret _ ?_) (by repeat' first | exact SeesL.nil | refine SeesL.cons ?_ ?_ | exact SeesB.of0 (Sees0.val _) | exact SeesB.of0 (Sees0.str _) | exact SeesB.of0 (Sees0.olds _ _) | exact SeesB.of0 (Sees0.old _) | exact SeesB.of0 (Sees0.oldagg _) | exact SeesB.of0 Sees0.nil | exact Sees0.val _ | exact Sees0.str _ | exact Sees0.olds _ _ | exact Sees0.old _ | exact Sees0.oldagg _ | exact Sees0.nil | exact SeesB.of0 (Sees0.any _) | assumption | exact sees_gv _ _ _ (by assumption) (by first | assumption | exact BoxIn.last _ _ | exact BoxIn.more (BoxIn.last _ _) _) | refine SeesB.agg ?_ | refine Sees0.agg ?_ | exact SeesB.of0 (Sees0.clo SeesL.nil SeesL.nil) | exact Sees0.clo SeesL.nil SeesL.nil | exact SeesB.of0 (Sees0.list rfl) | exact Sees0.list rfl) ?_)
  all_goals first
    | omega
    | (refine congrArg AV.agg ?_
       repeat' first
         | refine cons_congr ?_ ?_
         | refine tok_congr ?_ ?_
         | refine congrArg (tks _ _) ?_
         | rfl
       all_goals (simp [Ty.pair, Ty.str, Ty.int, Ty.bool, Nat.add_assoc]; done))
    | (simp [tRule, Ty.pair, Ty.str, Ty.int, Ty.bool, List.append_assoc, Nat.add_assoc]; done)
theorem szRule.ret (f : VRule) (a : Int) (h0 : 0 ≤ a) (ha : a ≤ 1048576) (hb : tRule.bd f) :
    szRule.Ret [.agg (oldL (tRule.q f)), .val (.int .i64 a)] (.val (.int .i64 (left a (tRule.size f)))) [] := by
  refine szRule.of rfl ?_
  have hz := tRule_size f
  obtain ⟨hb0, hb1, hb2, hb3⟩ := hb
  have hb0 : f.1.length ≤ 9223372036854775807 := hb0
  by_cases c1 : a < (f.1.length : Int)
  · have e0 : IntKind.i64.wrap (a - (f.1.length : Int)) = a - (f.1.length : Int) := by rw [wrap64 (by omega) (by omega)]
    repeat' first
      | (conv => whnf
         first | refine Need.mk rfl ?_ | refine Fork.decYes (by omega) ?_ | refine LitO.own rfl ?_ | refine FinVal.keep ?_ | refine Final.mk ?_ rfl)
      | refine AV.int_congr ?_
    all_goals first
      | assumption
      | omega
      | exact left_eq (by omega)
  by_cases c2 : a < (f.1.length : Int) + (tConds.size f.2.2.1 : Int)
  · have e0 : IntKind.i64.wrap (a - (f.1.length : Int)) = a - (f.1.length : Int) := by rw [wrap64 (by omega) (by omega)]
    have e1 : left (IntKind.i64.wrap (a - (f.1.length : Int))) (tConds.size f.2.2.1) = -1 := by rw [e0, left, if_pos (by omega)]
    repeat' first
      | (conv => whnf
         first | refine Need.mk rfl ?_ | refine Fork.decYes (by omega) ?_ | refine Fork.decNo (by omega) ?_ | refine LitO.own rfl ?_ | refine FinVal.keep ?_ | refine Final.mk ?_ rfl | refine ACall.scalA _ _ (szCondS.ret _ _ ?_ ?_ ?_) rfl ?_)
      | refine AV.int_congr ?_
    all_goals first
      | assumption
      | omega
      | exact left_eq (by omega)
  by_cases c3 : a < (f.1.length : Int) + (tConds.size f.2.2.1 : Int) + (tActions.size f.2.2.2 : Int)
  · have e0 : IntKind.i64.wrap (a - (f.1.length : Int)) = a - (f.1.length : Int) := by rw [wrap64 (by omega) (by omega)]
    have e1 : left (IntKind.i64.wrap (a - (f.1.length : Int))) (tConds.size f.2.2.1) = a - (f.1.length : Int) - (tConds.size f.2.2.1 : Int) := by rw [e0, left, if_neg (by omega)]
    have e2 : left (left (IntKind.i64.wrap (a - (f.1.length : Int))) (tConds.size f.2.2.1)) (tActions.size f.2.2.2) = -1 := by rw [e1, left, if_pos (by omega)]
    repeat' first
      | (conv => whnf
         first | refine Need.mk rfl ?_ | refine Fork.decYes (by omega) ?_ | refine Fork.decNo (by omega) ?_ | refine LitO.own rfl ?_ | refine FinVal.keep ?_ | refine Final.mk ?_ rfl | refine ACall.scalA _ _ (szCondS.ret _ _ ?_ ?_ ?_) rfl ?_ | refine ACall.scalA _ _ (szActionS.ret _ _ ?_ ?_ ?_) rfl ?_)
      | refine AV.int_congr ?_
    all_goals first
      | assumption
      | omega
      | exact left_eq (by omega)
  have e0 : IntKind.i64.wrap (a - (f.1.length : Int)) = a - (f.1.length : Int) := by rw [wrap64 (by omega) (by omega)]
  have e1 : left (IntKind.i64.wrap (a - (f.1.length : Int))) (tConds.size f.2.2.1) = a - (f.1.length : Int) - (tConds.size f.2.2.1 : Int) := by rw [e0, left, if_neg (by omega)]
  have e2 : left (left (IntKind.i64.wrap (a - (f.1.length : Int))) (tConds.size f.2.2.1)) (tActions.size f.2.2.2) = a - (f.1.length : Int) - (tConds.size f.2.2.1 : Int) - (tActions.size f.2.2.2 : Int) := by rw [e1, left, if_neg (by omega)]
  repeat' first
    | (conv => whnf
       first | refine Need.mk rfl ?_ | refine Fork.decNo (by omega) ?_ | refine LitO.own rfl ?_ | refine FinVal.keep ?_ | refine Final.mk ?_ rfl | refine ACall.scalA _ _ (szCondS.ret _ _ ?_ ?_ ?_) rfl ?_ | refine ACall.scalA _ _ (szActionS.ret _ _ ?_ ?_ ?_) rfl ?_)
    | refine AV.int_congr ?_
  all_goals first
    | assumption
    | omega
    | exact left_eq (by omega)
theorem eqRule.big (f g : VRule) (h : tRule.size f ≤ 1099511627775) : eqRule.Ret [.agg (oldL (tRule.q f)), .agg (oldL (tRule.q g))] (.val (.bool (decide (f = g)))) [] := by
  refine eqRule.of rfl ?_
  have hz := tRule_size f
  repeat' first
    | (conv => whnf
       first | refine Need.mk rfl ?_ | refine Fork.bne (fun _ => ?_) (fun _ => ?_) | refine Fork.sne (fun _ => ?_) (fun _ => ?_) | refine Fork.neg (fun _ => ?_) (fun _ => ?_) | refine LitO.own rfl ?_ | refine FinVal.keep ?_ | refine Final.mk ?_ rfl | refine ACall.scalA _ _ (eqCondS.big _ _ ?_) rfl ?_ | refine ACall.scalA _ _ (eqActionS.big _ _ ?_) rfl ?_)
    | refine AV.bool_congr ?_
  all_goals first
    | omega
    | (simp only [tStrs_size, tInts_size] at *; omega)
    | (obtain ⟨x0, x1, x2, x3⟩ := f; obtain ⟨y0, y1, y2, y3⟩ := g; simp_all)
theorem toRuleS.ret (l : List VRule) (h : tRules.size l ≤ 1048576) : toRuleS.Ret [.list none (rows tRule l)] (.list (some (0 + (frs tRule l).length)) (tks tRule l 0)) (tRules.fr l) := by
  refine toRuleS.of rfl ?_
  rw [tRules_sz] at h
  repeat' first
    | (conv => whnf
       first | refine Need.fin ?_)
  refine ALoop.mk Nat (fun i => ⟨[(0, .list none (rows tRule l)), (3, .bsl 0 l.length), (4, .val (.int .i64 i))], [.cells (.row 110 4) (part [.str [], .val (.int .i64 0), .val (.slice none 0 0), .val (.slice none 0 0)] (tks tRule l 0) i)], frs tRule (l.take i)⟩) (fun i => i ≤ l.length) (fun i => l.length - i) ⟨0, Nat.zero_le _, ?_⟩ (fun i hi => ?_)
  · repeat' first
      | exact trivial | refine Weak.mk ?_ ?_ ?_ ?_ (Or.inl (Nat.le_of_ble_eq_true rfl)) | refine And.intro ?_ ?_ | with_reducible rfl | exact Nat.le_of_ble_eq_true rfl | refine AV.int_congr ?_ | refine AV.list_congr ?_ | refine AV.bsl_congr ?_ ?_ | (apply rfl)
    · simp
    · simp only [List.nil_append, List.length_cons, List.length_nil, List.take_succ_cons, List.take_zero]
      rw [part_made (xs := tks tRule l 0) (sz := 4) rfl (by decide) (by simp [length_tks])]; rfl
  repeat' first
    | (conv => whnf
       first | refine Need.mk rfl ?_ | refine Need.mk (Nat.le_of_ble_eq_true rfl) ?_ | refine Need.fin ?_ | refine Need.mk ?_ ?_ | refine Ix.mapF (fun _ => rfl) ?_ | refine Fork.dec (fun _ => ?_) (fun _ => ?_) | refine Round.mk ?_ | refine LitO.own rfl ?_ | refine ACall.mk_Rule _ _ (toRule.ret _ ?_) (by repeat' first | exact SeesL.nil | refine SeesL.cons ?_ ?_ | exact SeesB.of0 (Sees0.val _) | exact SeesB.of0 (Sees0.str _) | exact SeesB.of0 (Sees0.olds _ _) | exact SeesB.of0 (Sees0.old _) | exact SeesB.of0 (Sees0.oldagg _) | exact SeesB.of0 Sees0.nil | exact Sees0.val _ | exact Sees0.str _ | exact Sees0.olds _ _ | exact Sees0.old _ | exact Sees0.oldagg _ | exact Sees0.nil | exact SeesB.of0 (Sees0.any _) | assumption | exact sees_gv _ _ _ (by assumption) (by first | assumption | exact BoxIn.last _ _ | exact BoxIn.more (BoxIn.last _ _) _) | refine SeesB.agg ?_ | refine Sees0.agg ?_ | exact SeesB.of0 (Sees0.clo SeesL.nil SeesL.nil) | exact Sees0.clo SeesL.nil SeesL.nil | exact SeesB.of0 (Sees0.list rfl) | exact Sees0.list rfl) ?_)
  · rename_i h1
    rw [length_rows] at h1
    have := listSize_mem tRule (List.mem_of_getElem? (tRule_get (l := l) (i := i) (by omega)))
    rw [Int.toNat_natCast]; omega
  · rename_i h1
    rw [length_rows] at h1
    rw [part_len (sz := 4) rfl (tks_sz tRule l 0) (by rw [length_tks]; exact hi), Int.toNat_natCast, length_tks]
    exact ⟨rfl, by omega⟩
  · rename_i h1
    rw [length_rows] at h1
    refine ⟨i + 1, by omega, ?_, by omega⟩
    repeat' first
      | exact trivial | refine Weak.mk ?_ ?_ ?_ ?_ (Or.inl (Nat.le_of_ble_eq_true rfl)) | refine And.intro ?_ ?_ | with_reducible rfl | exact Nat.le_of_ble_eq_true rfl | refine AV.int_congr ?_ | refine AV.list_congr ?_ | refine AV.bsl_congr ?_ ?_
    · rw [wrap64 (by omega) (by omega)]; rfl
    · have := part_set (z := [.str [], .val (.int .i64 0), .val (.slice none 0 0), .val (.slice none 0 0)]) (sz := 4) rfl (tks_sz tRule l 0) (tks_get tRule 0 (tRule_get (l := l) (i := i) (by omega)))
      rw [Nat.zero_add] at this
      simp only [List.set_cons_zero, List.take_succ_cons, List.take_zero, List.length_cons, List.length_nil, Int.toNat_natCast, this]
    · show frs tRule (l.take i) ++ tRule.fr (l.getD (i : Int).toNat default) = frs tRule (l.take (i + 1))
      rw [Int.toNat_natCast, take_succ' default (by omega), frs_append]; simp [frs]
  · rename_i h1
    rw [length_rows] at h1
    conv => whnf
    have : i = l.length := by omega
    subst this
    have hall := part_all [.str [], .val (.int .i64 0), .val (.slice none 0 0), .val (.slice none 0 0)] (tks tRule l 0)
    rw [length_tks] at hall
    refine FreezeD.flat (Freeze.mk (tks tRule l 0) _ 110 4 rfl hall (length_tks _ _ _) (tks_sz tRule l 0) (fun c hc => ?_) ?_)
    · rw [hall] at hc; exact tks_nr tRule l 0 c hc
    · refine Final.mk ?_ ?_
      · rw [List.take_length, Nat.zero_add]
      · rw [List.take_length]; rfl
theorem szRuleS.ret (l : List VRule) (a : Int) (h0 : 0 ≤ a) (ha : a ≤ 1048576) (hb : tRules.bd l) :
    szRuleS.Ret [.list none (rows tRule l), .val (.int .i64 a)] (.val (.int .i64 (left a (tRules.size l)))) [] := by
  refine szRuleS.of rfl ?_
  obtain ⟨hl, hb⟩ := hb
  have hw : IntKind.i64.wrap (a - ((rows tRule l).length : Int)) = a - l.length := by rw [length_rows]; exact wrap64 (by omega) (by omega)
  have hz := tRules_sz l
  repeat' first
    | (conv => whnf
       first | refine Need.mk rfl ?_ | refine Fork.dec (fun _ => ?_) (fun _ => ?_) | refine LitO.own rfl ?_ | refine FinVal.keep ?_ | refine Final.mk ?_ rfl)
    | refine AV.int_congr ?_
  · rename_i h
    rw [hw] at h
    rw [left, if_pos (by omega)]
  rename_i h
  rw [hw] at h
  skip
  refine ALoop.mk Nat (fun i => ⟨[(0, .list none (rows tRule l)), (1, .val (.int .i64 (a - l.length - listSize tRule (l.take i)))), (5, .val (.int .i64 i))], [], []⟩) (fun i => i ≤ l.length ∧ (0 : Int) ≤ a - l.length - listSize tRule (l.take i)) (fun i => l.length - i) ⟨0, ⟨Nat.zero_le _, by simp [listSize]; omega⟩, ?_⟩ (fun i hi => ?_)
  · repeat' first
      | exact trivial | refine Weak.mk ?_ ?_ ?_ ?_ (Or.inl (Nat.le_of_ble_eq_true rfl)) | refine And.intro ?_ ?_ | with_reducible rfl | exact Nat.le_of_ble_eq_true rfl | refine AV.int_congr ?_ | refine AV.list_congr ?_ | (apply rfl)
    rw [hw]; simp [listSize]
  obtain ⟨hp1, hp2⟩ := hi
  have hle := listSize_take_le tRule l (i + 1)
  have hbi : i < l.length → tRule.bd (l.getD i default) := fun h => hb _ (List.mem_of_getElem? (tRule_get h))
  have hsz : i < l.length → listSize tRule (l.take (i + 1)) = listSize tRule (l.take i) + tRule.size (l.getD i default) := fun h => listSize_take_succ tRule (tRule_get h)
  repeat' first
    | (conv => whnf
       first | refine Need.mk rfl ?_ | refine Need.mk (Nat.le_of_ble_eq_true rfl) ?_ | refine Ix.mapF (fun _ => rfl) ?_ | refine Fork.dec (fun _ => ?_) (fun _ => ?_) | refine Round.mk ?_ | refine LitO.own rfl ?_ | refine FinVal.keep ?_ | refine Final.mk ?_ rfl | refine ACall.scalA _ _ (szRule.ret _ _ ?_ ?_ ?_) rfl ?_)
    | refine AV.int_congr ?_
  · exact hp2
  · omega
  · rename_i h1
    rw [length_rows] at h1
    rw [Int.toNat_natCast]; exact hbi (by omega)
  · rename_i h1 h2
    rw [length_rows] at h1
    rw [Int.toNat_natCast] at h2
    have := hsz (by omega)
    unfold left at h2 ⊢
    split at h2
    · rw [if_pos (by omega)]
    · omega
  · rename_i h1 h2
    rw [length_rows] at h1
    rw [Int.toNat_natCast] at h2
    have := hsz (by omega)
    have e : left (a - ↑l.length - ↑(listSize tRule (l.take i))) (tRule.size (l.getD i default)) = a - ↑l.length - ↑(listSize tRule (l.take (i + 1))) := by
      unfold left at h2 ⊢
      split at h2
      · omega
      · rw [if_neg ‹_›]; omega
    refine ⟨i + 1, ⟨by omega, ?_⟩, ?_, by omega⟩
    · rw [← e]; omega
    · repeat' first
        | exact trivial | refine Weak.mk ?_ ?_ ?_ ?_ (Or.inl (Nat.le_of_ble_eq_true rfl)) | refine And.intro ?_ ?_ | with_reducible rfl | exact Nat.le_of_ble_eq_true rfl | refine AV.int_congr ?_ | refine AV.list_congr ?_ | (apply rfl)
      · rw [Int.toNat_natCast]; exact e
      · rw [wrap64 (by omega) (by omega)]; rfl
  · rename_i h1
    rw [length_rows] at h1
    rw [List.take_of_length_le (by omega)] at hp2 ⊢
    rw [left, if_neg (by omega)]; omega
theorem eqRuleS.big (l m : List VRule) (h : tRules.size l ≤ 1099511627775) : eqRuleS.Ret [.list none (rows tRule l), .list none (rows tRule m)] (.val (.bool (decide (l = m)))) [] := by
  refine eqRuleS.of rfl ?_
  rw [tRules_sz] at h
  repeat' first
    | (conv => whnf
       first | refine Need.mk rfl ?_ | refine Fork.bne (fun _ => ?_) (fun _ => ?_) | refine LitO.own rfl ?_ | refine FinVal.keep ?_ | refine Final.mk ?_ rfl)
    | refine AV.bool_congr ?_
  · rename_i h
    rw [length_rows, length_rows] at h
    have h3 : ¬ l = m := fun e => h (by rw [e])
    simp [h3]
  rename_i h
  rw [length_rows, length_rows] at h
  have h : l.length = m.length := by omega
  skip
  refine ALoop.mk Nat (fun i => ⟨[(0, .list none (rows tRule l)), (1, .list none (rows tRule m)), (5, .val (.int .i64 i))], [], []⟩) (fun i => i ≤ l.length ∧ l.take i = m.take i) (fun i => l.length - i) ⟨0, ⟨Nat.zero_le _, rfl⟩, ?_⟩ (fun i hi => ?_)
  · repeat' first
      | exact trivial | refine Weak.mk ?_ ?_ ?_ ?_ (Or.inl (Nat.le_of_ble_eq_true rfl)) | refine And.intro ?_ ?_ | with_reducible rfl | exact Nat.le_of_ble_eq_true rfl | refine AV.int_congr ?_ | refine AV.list_congr ?_ | (apply rfl)
  repeat' first
    | (conv => whnf
       first | refine Need.mk rfl ?_ | refine Need.mk (Nat.le_of_ble_eq_true rfl) ?_ | refine Ix.mapF (fun _ => rfl) ?_ | refine Fork.dec (fun _ => ?_) (fun _ => ?_) | refine Fork.neg (fun _ => ?_) (fun _ => ?_) | refine Round.mk ?_ | refine LitO.own rfl ?_ | refine FinVal.keep ?_ | refine Final.mk ?_ rfl | refine AQCall.mkA _ _ (fun hg => eqRule.big _ _ ?_) rfl ?_)
    | refine AV.bool_congr ?_
  · rename_i h1
    rw [length_rows] at h1
    have := listSize_mem tRule (List.mem_of_getElem? (tRule_get (l := l) (i := i) (by omega)))
    rw [Int.toNat_natCast]; omega
  · rename_i h1 h2
    have h3 : ¬ l = m := fun e => of_decide_eq_false h2 (by rw [e])
    simp [h3]
  · rename_i h1 h2
    rw [length_rows] at h1
    rw [Int.toNat_natCast] at h2
    refine ⟨i + 1, ⟨by omega, ?_⟩, ?_, by omega⟩
    · rw [take_succ' default (by omega), take_succ' (l := m) default (by omega), hi.2, of_decide_eq_true h2]
    · repeat' first
        | exact trivial | refine Weak.mk ?_ ?_ ?_ ?_ (Or.inl (Nat.le_of_ble_eq_true rfl)) | refine And.intro ?_ ?_ | with_reducible rfl | exact Nat.le_of_ble_eq_true rfl | refine AV.int_congr ?_ | refine AV.list_congr ?_ | (apply rfl)
      rw [wrap64 (by omega) (by omega)]; rfl
  · rename_i h1
    rw [length_rows] at h1
    have h2 := hi.2
    rw [List.take_of_length_le (by omega), List.take_of_length_le (by omega)] at h2
    simp [h2]
theorem markRuleS.tn (l : List VRule) (k : Nat) (hs : tRules.size l ≤ 1099511627775) (hk : k + cn (.l 110 4 (l.map tRule.q)) ≤ 1099511627775) :
    markRuleS.Turn (gb (.l 110 4 (l.map tRule.q)) 0) [gv (.l 110 4 (l.map tRule.q)) 0, .val (.int .i64 k)] (.val (.int .i64 ((k + cn (.l 110 4 (l.map tRule.q)) : Nat)))) (gb (mk (.l 110 4 (l.map tRule.q)) k) 0) := by
  refine markRuleS.ofT rfl rfl (by rw [length_gb, nb_mk]) ?_
  obtain ⟨cs, hcs⟩ : ∃ cs, cs = (l.map tRule.q).flatten := ⟨_, rfl⟩
  have hlen : cs.length = l.length * 4 := by rw [hcs]; exact flat_len _ 4 tRule.hq l
  have hc0 : ∀ i, i < l.length → cs[i * 4 + 0]? = some (.s (l.getD i default).1) := fun i hi => by rw [hcs]; exact cell_at tRule.q 4 tRule.hq hi rfl
  have hc1 : ∀ i, i < l.length → cs[i * 4 + 1]? = some (.v (.int .i64 (l.getD i default).2.1)) := fun i hi => by rw [hcs]; exact cell_at tRule.q 4 tRule.hq hi rfl
  have hc2 : ∀ i, i < l.length → cs[i * 4 + 2]? = some (.l 83 5 ((l.getD i default).2.2.1.map tCond.q)) := fun i hi => by rw [hcs]; exact cell_at tRule.q 4 tRule.hq hi rfl
  have hc3 : ∀ i, i < l.length → cs[i * 4 + 3]? = some (.l 152 3 ((l.getD i default).2.2.2.map tAction.q)) := fun i hi => by rw [hcs]; exact cell_at tRule.q 4 tRule.hq hi rfl
  rw [gb_mk_l0, gb_l0, cn_l, gv, List.length_map, ← hcs]
  rw [cn_l, ← hcs] at hk
  clear hcs
  skip
  refine ALoop.mk Nat (fun i => ⟨[(0, .bsl 0 l.length), (1, .val (.int .i64 ((k + cnC (cs.take (i * 4)) : Nat)))), (5, .val (.int .i64 i))], .cells (.row 110 4) (gvL (st cs k (i * 4)) 1) :: gbL (st cs k (i * 4)) 1, []⟩) (fun i => i ≤ l.length) (fun i => l.length - i) ⟨0, Nat.zero_le _, ?_⟩ (fun i hi => ?_)
  · refine weak_st ⟨rfl, ?_, rfl, trivial⟩ ?_ ?_ rfl ?_
    · rw [Nat.zero_mul]; rfl
    · rw [Nat.zero_mul, st_zero]
    · rw [Nat.zero_mul, st_zero]
    · rw [Nat.zero_mul, st_zero, List.length_cons]; exact Nat.le_refl _
  have hle := cn_take_le cs (i * 4)
  rw [tRules_sz] at hs
  rcases Nat.lt_or_ge i l.length with hlt | hge
  rotate_left
  · have hiw : i * 4 = cs.length := by omega
    repeat' first
      | (conv => whnf
         first | refine Need.mk rfl ?_ | refine Fork.decNo (by omega) ?_ | refine forceBx_of ?_ | refine LitO.own rfl ?_ | refine FinalT.mk ?_ ?_)
      | refine AV.int_congr ?_
    · rw [hiw, List.take_length]
    · rw [hiw, st_all cs k rfl]; exact take_all (by rw [List.length_cons, List.length_cons, length_gbL, length_gbL, nbL_mkC]; exact Nat.le_refl _)
  have hi1 : (i + 1) * 4 = i * 4 + 4 := by omega
  have hsz := tRule_le hlt
  have hz23 := tRule_size (l.getD i default)
  repeat' first
    | (conv => whnf
       first | refine Need.mk rfl ?_ | refine Fork.decYes (by omega) ?_ | refine forceBx_of ?_ | refine LitO.own rfl ?_)
  have l0 := cn_take_le cs (i * 4 + 1)
  have n0 : cnC (cs.take (i * 4 + 1)) = cnC (cs.take (i * 4)) + 1 := cn_succ (hc0 i hlt)
  have w0 : IntKind.i64.wrap (((k + cnC (cs.take (i * 4)) : Nat) : Int) + 1) = ((k + cnC (cs.take (i * 4 + 1)) : Nat) : Int) := by rw [wrap64 (by omega) (by omega)]; omega
  have b0 : gbL (st cs k (i * 4 + 1)) 1 = gbL (st cs k (i * 4)) 1 := gbL_st k 1 (hc0 i hlt) rfl
  have g0 : gvL (st cs k (i * 4 + 1)) 1 = (gvL (st cs k (i * 4)) 1).set (i * 4) (.str (markF (k + cnC (cs.take (i * 4))))) := gvL_st k 1 (hc0 i hlt)
  conv => whnf
  refine ACall.scal [.val (.int .i64 ((k + cnC (cs.take (i * 4)) : Nat)))] _ (markText.ret (k + cnC (cs.take (i * 4))) (by omega)) rfl (.cons (SeesB.of0 (by exact Sees0.val _)) .nil) ?_
  repeat' first
    | (conv => whnf
       first | refine Need.mk rfl ?_ | refine Need.fin ?_ | refine Need.mk ⟨rfl, by simp only [length_setAt, List.length_set, length_gvL, length_st, Int.toNat_natCast]; omega⟩ ?_ | refine LitO.own rfl ?_)
  have l1 := cn_take_le cs (i * 4 + 2)
  have n1 : cnC (cs.take (i * 4 + 2)) = cnC (cs.take (i * 4 + 1)) + 1 := cn_succ (hc1 i hlt)
  have w1 : IntKind.i64.wrap (IntKind.i64.wrap (((k + cnC (cs.take (i * 4)) : Nat) : Int) + 1) + 1) = ((k + cnC (cs.take (i * 4 + 2)) : Nat) : Int) := by rw [w0, wrap64 (by omega) (by omega)]; omega
  have b1 : gbL (st cs k (i * 4 + 2)) 1 = gbL (st cs k (i * 4 + 1)) 1 := gbL_st k 1 (hc1 i hlt) rfl
  have g1 : gvL (st cs k (i * 4 + 2)) 1 = (gvL (st cs k (i * 4 + 1)) 1).set (i * 4 + 1) (.val (.int .i64 (IntKind.i64.wrap (((k + cnC (cs.take (i * 4)) : Nat) : Int) + 1)))) := by rw [w0]; exact gvL_st k 1 (hc1 i hlt)
  have l2 := cn_take_le cs (i * 4 + 3)
  have n2 : cnC (cs.take (i * 4 + 3)) = cnC (cs.take (i * 4 + 2)) + cn (.l 83 5 ((l.getD i default).2.2.1.map tCond.q)) := cn_succ (hc2 i hlt)
  have g2 : gvL (st cs k (i * 4 + 3)) 1 = gvL (st cs k (i * 4 + 2)) 1 := gvL_stL k 1 (hc2 i hlt)
  have t2 : markCondS.Turn (gb (.l 83 5 ((l.getD i default).2.2.1.map tCond.q)) 0) [gv (.l 83 5 ((l.getD i default).2.2.1.map tCond.q)) 0, .val (.int .i64 ((k + cnC (cs.take (i * 4 + 2)) : Nat)))] (.val (.int .i64 ((k + cnC (cs.take (i * 4 + 3)) : Nat)))) (gb (mk (.l 83 5 ((l.getD i default).2.2.1.map tCond.q)) (k + cnC (cs.take (i * 4 + 2)))) 0) := by
    have h := markCondS.tn (l.getD i default).2.2.1 (k + cnC (cs.take (i * 4 + 2))) (by omega) (by omega)
    rw [Nat.add_assoc, ← n2] at h; exact h
  have d2 : (((gvL (st cs k (i * 4)) 1).set (i * 4) (.str (markF (k + cnC (cs.take (i * 4)))))).set (i * 4 + 1) (.val (.int .i64 (IntKind.i64.wrap (((k + cnC (cs.take (i * 4)) : Nat) : Int) + 1))))).drop (i * 4 + 2) = gv (.l 83 5 ((l.getD i default).2.2.1.map tCond.q)) (1 + nbL (cs.take (i * 4 + 2))) :: gvL (cs.drop (i * 4 + 2 + 1)) (1 + nbL (cs.take (i * 4 + 2)) + nb (.l 83 5 ((l.getD i default).2.2.1.map tCond.q))) := by
    have h := ld_st k 1 (hc2 i hlt)
    try simp only [Nat.add_zero] at h
    rw [g1, g0] at h
    exact h
  conv => whnf
  refine takeAV_one (n := 1) _ _ d2 ?_
  conv => whnf
  refine ACall.turn' (.cells (.row 110 4) (((gvL (st cs k (i * 4)) 1).set (i * 4) (.str (markF (k + cnC (cs.take (i * 4)))))).set (i * 4 + 1) (.val (.int .i64 (IntKind.i64.wrap (((k + cnC (cs.take (i * 4)) : Nat) : Int) + 1))))) :: gbL (st cs k (i * 4 + 3)) 1) [gv (.l 83 5 ((l.getD i default).2.2.1.map tCond.q)) 0, .val (.int .i64 ((k + cnC (cs.take (i * 4 + 2)) : Nat)))] (.l 83 5 ((l.getD i default).2.2.1.map tCond.q)) (mk (.l 83 5 ((l.getD i default).2.2.1.map tCond.q)) (k + cnC (cs.take (i * 4 + 2)))) _ (.cells (.row 110 4) (((gvL (st cs k (i * 4)) 1).set (i * 4) (.str (markF (k + cnC (cs.take (i * 4)))))).set (i * 4 + 1) (.val (.int .i64 (IntKind.i64.wrap (((k + cnC (cs.take (i * 4)) : Nat) : Int) + 1))))) :: gbL (mkC (cs.take (i * 4 + 2)) k) 1) (gbL (cs.drop (i * 4 + 2 + 1)) (1 + nbL (cs.take (i * 4 + 2)) + nb (.l 83 5 ((l.getD i default).2.2.1.map tCond.q)))) t2 rfl ?_ (nb_mk _ _) (.cons (.inl ⟨by rw [pre_st]; rfl, rfl⟩) (.cons (.inr (by rw [w1]; exact Sees0.val _)) .nil)) ?_ ?_
  · rw [← b0]; rw [← b1]; exact bx_st k (hc2 i hlt) _
  · exact bx_st' k (hc2 i hlt) _
  repeat' first
    | (conv => whnf
       first | refine Need.fin ?_)
  have l3 := cn_take_le cs (i * 4 + 4)
  have n3 : cnC (cs.take (i * 4 + 4)) = cnC (cs.take (i * 4 + 3)) + cn (.l 152 3 ((l.getD i default).2.2.2.map tAction.q)) := cn_succ (hc3 i hlt)
  have g3 : gvL (st cs k (i * 4 + 4)) 1 = gvL (st cs k (i * 4 + 3)) 1 := gvL_stL k 1 (hc3 i hlt)
  have t3 : markActionS.Turn (gb (.l 152 3 ((l.getD i default).2.2.2.map tAction.q)) 0) [gv (.l 152 3 ((l.getD i default).2.2.2.map tAction.q)) 0, .val (.int .i64 ((k + cnC (cs.take (i * 4 + 3)) : Nat)))] (.val (.int .i64 ((k + cnC (cs.take (i * 4 + 4)) : Nat)))) (gb (mk (.l 152 3 ((l.getD i default).2.2.2.map tAction.q)) (k + cnC (cs.take (i * 4 + 3)))) 0) := by
    have h := markActionS.tn (l.getD i default).2.2.2 (k + cnC (cs.take (i * 4 + 3))) (by omega) (by omega)
    rw [Nat.add_assoc, ← n3] at h; exact h
  have d3 : (((gvL (st cs k (i * 4)) 1).set (i * 4) (.str (markF (k + cnC (cs.take (i * 4)))))).set (i * 4 + 1) (.val (.int .i64 (IntKind.i64.wrap (((k + cnC (cs.take (i * 4)) : Nat) : Int) + 1))))).drop (i * 4 + 3) = gv (.l 152 3 ((l.getD i default).2.2.2.map tAction.q)) (1 + nbL (cs.take (i * 4 + 3))) :: gvL (cs.drop (i * 4 + 3 + 1)) (1 + nbL (cs.take (i * 4 + 3)) + nb (.l 152 3 ((l.getD i default).2.2.2.map tAction.q))) := by
    have h := ld_st k 1 (hc3 i hlt)
    try simp only [Nat.add_zero] at h
    rw [g2, g1, g0] at h
    exact h
  conv => whnf
  refine takeAV_one (n := 1) _ _ d3 ?_
  conv => whnf
  refine ACall.turn' (.cells (.row 110 4) (((gvL (st cs k (i * 4)) 1).set (i * 4) (.str (markF (k + cnC (cs.take (i * 4)))))).set (i * 4 + 1) (.val (.int .i64 (IntKind.i64.wrap (((k + cnC (cs.take (i * 4)) : Nat) : Int) + 1))))) :: gbL (st cs k (i * 4 + 4)) 1) [gv (.l 152 3 ((l.getD i default).2.2.2.map tAction.q)) 0, .val (.int .i64 ((k + cnC (cs.take (i * 4 + 3)) : Nat)))] (.l 152 3 ((l.getD i default).2.2.2.map tAction.q)) (mk (.l 152 3 ((l.getD i default).2.2.2.map tAction.q)) (k + cnC (cs.take (i * 4 + 3)))) _ (.cells (.row 110 4) (((gvL (st cs k (i * 4)) 1).set (i * 4) (.str (markF (k + cnC (cs.take (i * 4)))))).set (i * 4 + 1) (.val (.int .i64 (IntKind.i64.wrap (((k + cnC (cs.take (i * 4)) : Nat) : Int) + 1))))) :: gbL (mkC (cs.take (i * 4 + 3)) k) 1) (gbL (cs.drop (i * 4 + 3 + 1)) (1 + nbL (cs.take (i * 4 + 3)) + nb (.l 152 3 ((l.getD i default).2.2.2.map tAction.q)))) t3 rfl ?_ (nb_mk _ _) (.cons (.inl ⟨by rw [pre_st]; rfl, rfl⟩) (.cons (.inr (by exact Sees0.val _)) .nil)) ?_ ?_
  · exact bx_st k (hc3 i hlt) _
  · exact bx_st' k (hc3 i hlt) _
  repeat' first
    | (conv => whnf
       first | refine Need.mk rfl ?_ | refine Round.mk ?_ | refine LitO.own rfl ?_)
  refine ⟨i + 1, by omega, weak_st ⟨rfl, AV.int_congr ?_, AV.int_congr ?_, trivial⟩ (congrArg (ABox.cells (.row 110 4)) ?_) ?_ rfl ?_, by omega⟩
  · rw [hi1]
  · rw [wrap64 (by omega) (by omega)]; rfl
  · rw [hi1, g3, g2, g1, g0]
    try rfl
  · rw [hi1]
  · simp only [hi1, List.length_cons, length_gbL, nbL_st, Nat.le_refl]
end Go.Proofs.Ytfnejdkkhpjhmaa
namespace Go.Proofs.Ytfnejdkkhpjhmaa
open Abs
theorem tFact_size (a : Fct) : tFct.size a = a.1.length + tStrs.size a.2 := rfl
theorem tFct_cn : CnB tFct 2 := CnB.pair CnB.str (CnB.plain CnB.str _ _ _)
theorem tFcts_sz (l : List Fct) : tFcts.size l = l.length + listSize tFct l := rfl
theorem tFct_get {l : List Fct} {i : Nat} (hi : i < l.length) : l[i]? = some (l.getD i default) := by simp [List.getD, hi]
theorem tFct_le {l : List Fct} {i : Nat} (hi : i < l.length) : tFct.size (l.getD i default) ≤ listSize tFct l := listSize_mem tFct (List.mem_of_getElem? (tFct_get hi))
theorem Abs.ACall.mk_FactS {C : Con} {lend : Bool} {f : Nat} {vs : List AV} {b : List ABox} {fr : Fr} {k : AV → List ABox → Fr → Prop} (ys : List AV) (l : List Fct) (h : C.ret f ys (.list (some (0 + (frs tFct l).length)) (tks tFct l 0)) (tFcts.fr l)) (hv : SeesL Sees0 vs ys)
    (hk : k (.list (some (fr.length + (frs tFct l).length)) (tks tFct l fr.length)) b (fr ++ tFcts.fr l)) : ACall C lend f vs b fr k :=
  ACall.mkV tFcts ys l (fun n => .list (some (n + (frs tFct l).length)) (tks tFct l n)) (fun _ => rfl) h hv hk
theorem eqFact.big (f g : Fct) (h : tFct.size f ≤ 1099511627775) : eqFact.Ret [.agg (oldL (tFct.q f)), .agg (oldL (tFct.q g))] (.val (.bool (decide (f = g)))) [] := by
  refine eqFact.of rfl ?_
  have hz := tFact_size f
  repeat' first
    | (conv => whnf
       first | refine Fork.sne (fun _ => ?_) (fun _ => ?_) | refine Fork.neg (fun _ => ?_) (fun _ => ?_) | refine FinVal.keep ?_ | refine Final.mk ?_ rfl | refine ACall.scalA _ _ (eqStringS.big _ _ ?_) rfl ?_)
    | refine AV.bool_congr ?_
  all_goals first
    | omega
    | (simp only [tStrs_size, tInts_size] at *; omega)
    | (obtain ⟨x0, x1⟩ := f; obtain ⟨y0, y1⟩ := g; simp_all)
theorem eqFactS.big (l m : List Fct) (h : tFcts.size l ≤ 1099511627775) : eqFactS.Ret [.list none (rows tFct l), .list none (rows tFct m)] (.val (.bool (decide (l = m)))) [] := by
  refine eqFactS.of rfl ?_
  rw [tFcts_sz] at h
  repeat' first
    | (conv => whnf
       first | refine Need.mk rfl ?_ | refine Fork.bne (fun _ => ?_) (fun _ => ?_) | refine LitO.own rfl ?_ | refine FinVal.keep ?_ | refine Final.mk ?_ rfl)
    | refine AV.bool_congr ?_
  · rename_i h
    rw [length_rows, length_rows] at h
    have h3 : ¬ l = m := fun e => h (by rw [e])
    simp [h3]
  rename_i h
  rw [length_rows, length_rows] at h
  have h : l.length = m.length := by omega
  skip
  refine ALoop.mk Nat (fun i => ⟨[(0, .list none (rows tFct l)), (1, .list none (rows tFct m)), (5, .val (.int .i64 i))], [], []⟩) (fun i => i ≤ l.length ∧ l.take i = m.take i) (fun i => l.length - i) ⟨0, ⟨Nat.zero_le _, rfl⟩, ?_⟩ (fun i hi => ?_)
  · repeat' first
      | exact trivial | refine Weak.mk ?_ ?_ ?_ ?_ (Or.inl (Nat.le_of_ble_eq_true rfl)) | refine And.intro ?_ ?_ | with_reducible rfl | exact Nat.le_of_ble_eq_true rfl | refine AV.int_congr ?_ | refine AV.list_congr ?_ | (apply rfl)
  repeat' first
    | (conv => whnf
       first | refine Need.mk rfl ?_ | refine Need.mk (Nat.le_of_ble_eq_true rfl) ?_ | refine Ix.mapF (fun _ => rfl) ?_ | refine Fork.dec (fun _ => ?_) (fun _ => ?_) | refine Fork.neg (fun _ => ?_) (fun _ => ?_) | refine Round.mk ?_ | refine LitO.own rfl ?_ | refine FinVal.keep ?_ | refine Final.mk ?_ rfl | refine AQCall.mkA _ _ (fun hg => eqFact.big _ _ ?_) rfl ?_)
    | refine AV.bool_congr ?_
  · rename_i h1
    rw [length_rows] at h1
    have := listSize_mem tFct (List.mem_of_getElem? (tFct_get (l := l) (i := i) (by omega)))
    rw [Int.toNat_natCast]; omega
  · rename_i h1 h2
    have h3 : ¬ l = m := fun e => of_decide_eq_false h2 (by rw [e])
    simp [h3]
  · rename_i h1 h2
    rw [length_rows] at h1
    rw [Int.toNat_natCast] at h2
    refine ⟨i + 1, ⟨by omega, ?_⟩, ?_, by omega⟩
    · rw [take_succ' default (by omega), take_succ' (l := m) default (by omega), hi.2, of_decide_eq_true h2]
    · repeat' first
        | exact trivial | refine Weak.mk ?_ ?_ ?_ ?_ (Or.inl (Nat.le_of_ble_eq_true rfl)) | refine And.intro ?_ ?_ | with_reducible rfl | exact Nat.le_of_ble_eq_true rfl | refine AV.int_congr ?_ | refine AV.list_congr ?_ | (apply rfl)
      rw [wrap64 (by omega) (by omega)]; rfl
  · rename_i h1
    rw [length_rows] at h1
    have h2 := hi.2
    rw [List.take_of_length_le (by omega), List.take_of_length_le (by omega)] at h2
    simp [h2]
theorem markFactS.tn (l : List Fct) (k : Nat) (hs : tFcts.size l ≤ 1099511627775) (hk : k + cn (.l 144 2 (l.map tFct.q)) ≤ 1099511627775) :
    markFactS.Turn (gb (.l 144 2 (l.map tFct.q)) 0) [gv (.l 144 2 (l.map tFct.q)) 0, .val (.int .i64 k)] (.val (.int .i64 ((k + cn (.l 144 2 (l.map tFct.q)) : Nat)))) (gb (mk (.l 144 2 (l.map tFct.q)) k) 0) := by
  refine markFactS.ofT rfl rfl (by rw [length_gb, nb_mk]) ?_
  obtain ⟨cs, hcs⟩ : ∃ cs, cs = (l.map tFct.q).flatten := ⟨_, rfl⟩
  have hlen : cs.length = l.length * 2 := by rw [hcs]; exact flat_len _ 2 tFct.hq l
  have hc0 : ∀ i, i < l.length → cs[i * 2 + 0]? = some (.s (l.getD i default).1) := fun i hi => by rw [hcs]; exact cell_at tFct.q 2 tFct.hq hi rfl
  have hc1 : ∀ i, i < l.length → cs[i * 2 + 1]? = some (.l 9 1 ((l.getD i default).2.map Ty.str.q)) := fun i hi => by rw [hcs]; exact cell_at tFct.q 2 tFct.hq hi rfl
  rw [gb_mk_l0, gb_l0, cn_l, gv, List.length_map, ← hcs]
  rw [cn_l, ← hcs] at hk
  clear hcs
  skip
  refine ALoop.mk Nat (fun i => ⟨[(0, .bsl 0 l.length), (1, .val (.int .i64 ((k + cnC (cs.take (i * 2)) : Nat)))), (5, .val (.int .i64 i))], .cells (.row 144 2) (gvL (st cs k (i * 2)) 1) :: gbL (st cs k (i * 2)) 1, []⟩) (fun i => i ≤ l.length) (fun i => l.length - i) ⟨0, Nat.zero_le _, ?_⟩ (fun i hi => ?_)
  · refine weak_st ⟨rfl, ?_, rfl, trivial⟩ ?_ ?_ rfl ?_
    · rw [Nat.zero_mul]; rfl
    · rw [Nat.zero_mul, st_zero]
    · rw [Nat.zero_mul, st_zero]
    · rw [Nat.zero_mul, st_zero, List.length_cons]; exact Nat.le_refl _
  have hle := cn_take_le cs (i * 2)
  rw [tFcts_sz] at hs
  rcases Nat.lt_or_ge i l.length with hlt | hge
  rotate_left
  · have hiw : i * 2 = cs.length := by omega
    repeat' first
      | (conv => whnf
         first | refine Need.mk rfl ?_ | refine Fork.decNo (by omega) ?_ | refine forceBx_of ?_ | refine LitO.own rfl ?_ | refine FinalT.mk ?_ ?_)
      | refine AV.int_congr ?_
    · rw [hiw, List.take_length]
    · rw [hiw, st_all cs k rfl]; exact take_all (by rw [List.length_cons, List.length_cons, length_gbL, length_gbL, nbL_mkC]; exact Nat.le_refl _)
  have hi1 : (i + 1) * 2 = i * 2 + 2 := by omega
  have hsz := tFct_le hlt
  have hz3 := tFact_size (l.getD i default)
  repeat' first
    | (conv => whnf
       first | refine Need.mk rfl ?_ | refine Fork.decYes (by omega) ?_ | refine forceBx_of ?_ | refine LitO.own rfl ?_)
  have l0 := cn_take_le cs (i * 2 + 1)
  have n0 : cnC (cs.take (i * 2 + 1)) = cnC (cs.take (i * 2)) + 1 := cn_succ (hc0 i hlt)
  have w0 : IntKind.i64.wrap (((k + cnC (cs.take (i * 2)) : Nat) : Int) + 1) = ((k + cnC (cs.take (i * 2 + 1)) : Nat) : Int) := by rw [wrap64 (by omega) (by omega)]; omega
  have b0 : gbL (st cs k (i * 2 + 1)) 1 = gbL (st cs k (i * 2)) 1 := gbL_st k 1 (hc0 i hlt) rfl
  have g0 : gvL (st cs k (i * 2 + 1)) 1 = (gvL (st cs k (i * 2)) 1).set (i * 2) (.str (markF (k + cnC (cs.take (i * 2))))) := gvL_st k 1 (hc0 i hlt)
  conv => whnf
  refine ACall.scal [.val (.int .i64 ((k + cnC (cs.take (i * 2)) : Nat)))] _ (markText.ret (k + cnC (cs.take (i * 2))) (by omega)) rfl (.cons (SeesB.of0 (by exact Sees0.val _)) .nil) ?_
  repeat' first
    | (conv => whnf
       first | refine Need.mk rfl ?_ | refine Need.fin ?_ | refine Need.mk ⟨rfl, by simp only [length_setAt, List.length_set, length_gvL, length_st, Int.toNat_natCast]; omega⟩ ?_ | refine LitO.own rfl ?_)
  have l1 := cn_take_le cs (i * 2 + 2)
  have n1 : cnC (cs.take (i * 2 + 2)) = cnC (cs.take (i * 2 + 1)) + cn (.l 9 1 ((l.getD i default).2.map Ty.str.q)) := cn_succ (hc1 i hlt)
  have g1 : gvL (st cs k (i * 2 + 2)) 1 = gvL (st cs k (i * 2 + 1)) 1 := gvL_stL k 1 (hc1 i hlt)
  have t1 : markStringS.Turn (gb (.l 9 1 ((l.getD i default).2.map Ty.str.q)) 0) [gv (.l 9 1 ((l.getD i default).2.map Ty.str.q)) 0, .val (.int .i64 ((k + cnC (cs.take (i * 2 + 1)) : Nat)))] (.val (.int .i64 ((k + cnC (cs.take (i * 2 + 2)) : Nat)))) (gb (mk (.l 9 1 ((l.getD i default).2.map Ty.str.q)) (k + cnC (cs.take (i * 2 + 1)))) 0) := by
    have h := markStringS.tn (l.getD i default).2 (k + cnC (cs.take (i * 2 + 1))) (by omega) (by omega)
    rw [Nat.add_assoc, ← n1] at h; exact h
  have d1 : ((gvL (st cs k (i * 2)) 1).set (i * 2) (.str (markF (k + cnC (cs.take (i * 2)))))).drop (i * 2 + 1) = gv (.l 9 1 ((l.getD i default).2.map Ty.str.q)) (1 + nbL (cs.take (i * 2 + 1))) :: gvL (cs.drop (i * 2 + 1 + 1)) (1 + nbL (cs.take (i * 2 + 1)) + nb (.l 9 1 ((l.getD i default).2.map Ty.str.q))) := by
    have h := ld_st k 1 (hc1 i hlt)
    try simp only [Nat.add_zero] at h
    rw [g0] at h
    exact h
  conv => whnf
  refine takeAV_one (n := 1) _ _ d1 ?_
  conv => whnf
  refine ACall.turn' (.cells (.row 144 2) ((gvL (st cs k (i * 2)) 1).set (i * 2) (.str (markF (k + cnC (cs.take (i * 2)))))) :: gbL (st cs k (i * 2 + 2)) 1) [gv (.l 9 1 ((l.getD i default).2.map Ty.str.q)) 0, .val (.int .i64 ((k + cnC (cs.take (i * 2 + 1)) : Nat)))] (.l 9 1 ((l.getD i default).2.map Ty.str.q)) (mk (.l 9 1 ((l.getD i default).2.map Ty.str.q)) (k + cnC (cs.take (i * 2 + 1)))) _ (.cells (.row 144 2) ((gvL (st cs k (i * 2)) 1).set (i * 2) (.str (markF (k + cnC (cs.take (i * 2)))))) :: gbL (mkC (cs.take (i * 2 + 1)) k) 1) (gbL (cs.drop (i * 2 + 1 + 1)) (1 + nbL (cs.take (i * 2 + 1)) + nb (.l 9 1 ((l.getD i default).2.map Ty.str.q)))) t1 rfl ?_ (nb_mk _ _) (.cons (.inl ⟨by rw [pre_st]; rfl, rfl⟩) (.cons (.inr (by rw [w0]; exact Sees0.val _)) .nil)) ?_ ?_
  · rw [← b0]; exact bx_st k (hc1 i hlt) _
  · exact bx_st' k (hc1 i hlt) _
  repeat' first
    | (conv => whnf
       first | refine Need.mk rfl ?_ | refine Round.mk ?_ | refine LitO.own rfl ?_)
  refine ⟨i + 1, by omega, weak_st ⟨rfl, AV.int_congr ?_, AV.int_congr ?_, trivial⟩ (congrArg (ABox.cells (.row 144 2)) ?_) ?_ rfl ?_, by omega⟩
  · rw [hi1]
  · rw [wrap64 (by omega) (by omega)]; rfl
  · rw [hi1, g1, g0]
    try rfl
  · rw [hi1]
  · simp only [hi1, List.length_cons, length_gbL, nbL_st, Nat.le_refl]
end Go.Proofs.Ytfnejdkkhpjhmaa
namespace Go.Proofs.Ytfnejdkkhpjhmaa
open Abs
abbrev VAlpha := VPattern × List Fct
instance : DecidableEq VAlpha := instDecidableEqProd
def tAlpha : Ty VAlpha := Ty.pair tPattern tFcts
theorem tAlpha_size (a : VAlpha) : tAlpha.size a = tPattern.size a.1 + tFcts.size a.2 := rfl
theorem tAlpha_cn : CnB tAlpha 4 := CnB.pair tPattern_cn (CnB.list tFct_cn _)
def tAlphas : Ty (List VAlpha) := Ty.list 106 tAlpha
theorem tAlphas_sz (l : List VAlpha) : tAlphas.size l = l.length + listSize tAlpha l := rfl
theorem tAlpha_get {l : List VAlpha} {i : Nat} (hi : i < l.length) : l[i]? = some (l.getD i default) := by simp [List.getD, hi]
theorem tAlpha_le {l : List VAlpha} {i : Nat} (hi : i < l.length) : tAlpha.size (l.getD i default) ≤ listSize tAlpha l := listSize_mem tAlpha (List.mem_of_getElem? (tAlpha_get hi))
theorem Abs.ACall.mk_Alpha {C : Con} {lend : Bool} {f : Nat} {vs : List AV} {b : List ABox} {fr : Fr} {k : AV → List ABox → Fr → Prop} (ys : List AV) (a : VAlpha) (h : C.ret f ys (.agg (tAlpha.tk a 0)) (tAlpha.fr a)) (hv : SeesL Sees0 vs ys)
    (hk : k (.agg (tAlpha.tk a fr.length)) b (fr ++ tAlpha.fr a)) : ACall C lend f vs b fr k := ACall.mkA tAlpha ys a h hv hk
theorem Abs.ACall.mk_AlphaS {C : Con} {lend : Bool} {f : Nat} {vs : List AV} {b : List ABox} {fr : Fr} {k : AV → List ABox → Fr → Prop} (ys : List AV) (l : List VAlpha) (h : C.ret f ys (.list (some (0 + (frs tAlpha l).length)) (tks tAlpha l 0)) (tAlphas.fr l)) (hv : SeesL Sees0 vs ys)
    (hk : k (.list (some (fr.length + (frs tAlpha l).length)) (tks tAlpha l fr.length)) b (fr ++ tAlphas.fr l)) : ACall C lend f vs b fr k :=
  ACall.mkV tAlphas ys l (fun n => .list (some (n + (frs tAlpha l).length)) (tks tAlpha l n)) (fun _ => rfl) h hv hk
theorem toAlpha.ret (a : VAlpha) (h : tAlpha.size a ≤ 1048576) : toAlpha.Ret [.agg (oldL (tAlpha.q a))] (.agg (tAlpha.tk a 0)) (tAlpha.fr a) := by
  refine toAlpha.of rfl ?_
  rw [tAlpha_size] at h
  repeat' first
    | contradiction | exact trivial
    | (conv => whnf
       first | refine Need.mk (fun h => h) ?_ | refine Need.mk rfl ?_ | refine Need.mk ⟨rfl, Nat.le_of_ble_eq_true rfl⟩ ?_ | refine Need.mk (Nat.le_of_ble_eq_true rfl) ?_ | refine Need.fin ?_ | refine Need.mk ?_ ?_ | refine Ix.strsF rfl ?_ | refine Ix.strs rfl ?_ ?_ | refine Cut.strs rfl ?_ ?_ | refine Ix.mapF (fun _ => rfl) ?_ | refine Ix.map (fun _ => rfl) ?_ ?_ | refine Cut.map (fun _ => rfl) ?_ ?_ | refine Fork.yes (by assumption) ?_ | refine Fork.no (by assumption) ?_ | refine Fork.decYes (by omega) ?_ | refine Fork.decNo (by omega) ?_ | refine Fork.dec (fun _ => ?_) (fun _ => ?_) | refine Fork.bne (fun _ => ?_) (fun _ => ?_) | refine Fork.beq (fun _ => ?_) (fun _ => ?_) | refine Fork.seq (fun _ => ?_) (fun _ => ?_) | refine Fork.sne (fun _ => ?_) (fun _ => ?_) | refine Fork.neg (fun _ => ?_) (fun _ => ?_) | refine Fork.mk (fun _ => ?_) (fun _ => ?_) | refine HAlt.mk ?_ ?_ | apply HJoin.mk3 | exact HEnd.mk rfl rfl rfl | refine HEnd.mk ?_ ?_ ?_ | refine Round.mk ?_ | refine NilQ.mk (fun b hb => ?_) | refine forceK_of ?_ | refine forceBx_of ?_ | refine unG_old ?_ | refine unG_gv ?_ | refine Lit.read rfl ?_ | refine LitO.own rfl ?_ | refine FinVal.keep ?_ | refine FinAgg.keep ?_ | refine Final.mk rfl rfl | refine Final.mk ?_ rfl | refine Final.mk ?_ ?_ | refine FinalT.mk ?_ ?_ | refine FinalI.mk ?_ | refine FinalC.allA ?_ | refine ACall.mk_Pattern _ _ (toPattern.ret _ ?_) (by repeat' first | exact SeesL.nil | refine SeesL.cons ?_ ?_ | exact SeesB.of0 (Sees0.val _) | exact SeesB.of0 (Sees0.str _) | exact SeesB.of0 (Sees0.olds _ _) | exact SeesB.of0 (Sees0.old _) | exact SeesB.of0 (Sees0.oldagg _) | exact SeesB.of0 Sees0.nil | exact Sees0.val _ | exact Sees0.str _ | exact Sees0.olds _ _ | exact Sees0.old _ | exact Sees0.oldagg _ | exact Sees0.nil | exact SeesB.of0 (Sees0.any _) | assumption | exact sees_gv _ _ _ (by assumption) (by first | assumption | exact BoxIn.last _ _ | exact BoxIn.more (BoxIn.last _ _) _) | refine SeesB.agg ?_ | refine Sees0.agg ?_ | exact SeesB.of0 (Sees0.clo SeesL.nil SeesL.nil) | exact Sees0.clo SeesL.nil SeesL.nil | exact SeesB.of0 (Sees0.list rfl) | exact Sees0.list rfl) ?_ | refine ACall.mk_FactS _ _ (toFactS.ret _ ?_) (by repeat' first | exact SeesL.nil | refine SeesL.cons ?_ ?_ | exact SeesB.of0 (Sees0.val _) | exact SeesB.of0 (Sees0.str _) | exact SeesB.of0 (Sees0.olds _ _) | exact SeesB.of0 (Sees0.old _) | exact SeesB.of0 (Sees0.oldagg _) | exact SeesB.of0 Sees0.nil | exact Sees0.val _ | exact Sees0.str _ | exact Sees0.olds _ _ | exact Sees0.old _ | exact Sees0.oldagg _ | exact Sees0.nil | exact SeesB.of0 (Sees0.any _) | assumption | exact sees_gv _ _ _ (by assumption) (by first | assumption | exact BoxIn.last _ _ | exact BoxIn.more (BoxIn.last _ _) _) | refine SeesB.agg ?_ | refine Sees0.agg ?_ | exact SeesB.of0 (Sees0.clo SeesL.nil SeesL.nil) | exact Sees0.clo SeesL.nil SeesL.nil | exact SeesB.of0 (Sees0.list rfl) | exact Sees0.list rfl) ?_)
    | refine AV.bool_congr ?_ | refine AV.int_congr ?_ | refine AV.str_congr ?_ | refine AV.list_congr ?_ | with_reducible rfl | refine fr1 ?_ | refine fr2 ?_ ?_
  all_goals first
    | omega
    | (refine congrArg AV.agg ?_
       repeat' first
         | refine cons_congr ?_ ?_
         | refine tok_congr ?_ ?_
         | refine congrArg (tks _ _) ?_
         | rfl
       all_goals (simp [Ty.pair, Ty.str, Ty.int, Ty.bool, Nat.add_assoc]; done))
    | (simp [tAlpha, Ty.pair, Ty.str, Ty.int, Ty.bool, List.append_assoc, Nat.add_assoc]; done)
theorem szAlpha.ret (f : VAlpha) (a : Int) (h0 : 0 ≤ a) (ha : a ≤ 1048576) (hb : tAlpha.bd f) :
    szAlpha.Ret [.agg (oldL (tAlpha.q f)), .val (.int .i64 a)] (.val (.int .i64 (left a (tAlpha.size f)))) [] := by
  refine szAlpha.of rfl ?_
  have hz := tAlpha_size f
  obtain ⟨hb0, hb1⟩ := hb
  by_cases c1 : a < (tPattern.size f.1 : Int)
  · have e0 : left a (tPattern.size f.1) = -1 := by rw [left, if_pos (by omega)]
    repeat' first
      | contradiction | exact trivial
      | (conv => whnf
         first | refine Need.mk (fun h => h) ?_ | refine Need.mk rfl ?_ | refine Need.mk ⟨rfl, Nat.le_of_ble_eq_true rfl⟩ ?_ | refine Need.mk (Nat.le_of_ble_eq_true rfl) ?_ | refine Need.fin ?_ | refine Need.mk ?_ ?_ | refine Ix.strsF rfl ?_ | refine Ix.strs rfl ?_ ?_ | refine Cut.strs rfl ?_ ?_ | refine Ix.mapF (fun _ => rfl) ?_ | refine Ix.map (fun _ => rfl) ?_ ?_ | refine Cut.map (fun _ => rfl) ?_ ?_ | refine Fork.yes (by assumption) ?_ | refine Fork.no (by assumption) ?_ | refine Fork.decYes (by omega) ?_ | refine Fork.decNo (by omega) ?_ | refine Fork.dec (fun _ => ?_) (fun _ => ?_) | refine Fork.bne (fun _ => ?_) (fun _ => ?_) | refine Fork.beq (fun _ => ?_) (fun _ => ?_) | refine Fork.seq (fun _ => ?_) (fun _ => ?_) | refine Fork.sne (fun _ => ?_) (fun _ => ?_) | refine Fork.neg (fun _ => ?_) (fun _ => ?_) | refine Fork.mk (fun _ => ?_) (fun _ => ?_) | refine HAlt.mk ?_ ?_ | apply HJoin.mk3 | exact HEnd.mk rfl rfl rfl | refine HEnd.mk ?_ ?_ ?_ | refine Round.mk ?_ | refine NilQ.mk (fun b hb => ?_) | refine forceK_of ?_ | refine forceBx_of ?_ | refine unG_old ?_ | refine unG_gv ?_ | refine Lit.read rfl ?_ | refine LitO.own rfl ?_ | refine FinVal.keep ?_ | refine FinAgg.keep ?_ | refine Final.mk rfl rfl | refine Final.mk ?_ rfl | refine Final.mk ?_ ?_ | refine FinalT.mk ?_ ?_ | refine FinalI.mk ?_ | refine FinalC.allA ?_ | refine ACall.scalA _ _ (szPattern.ret _ _ ?_ ?_ ?_) rfl ?_ | refine AQCall.mkA _ _ (fun hg => szPattern.ret _ _ ?_ ?_ ?_) rfl ?_ | refine AGCall.mkA _ _ (fun hg => szPattern.ret _ _ ?_ ?_ ?_) rfl ?_ | refine ACall.scalA _ _ (szFactS.ret _ _ ?_ ?_ ?_) rfl ?_ | refine AQCall.mkA _ _ (fun hg => szFactS.ret _ _ ?_ ?_ ?_) rfl ?_ | refine AGCall.mkA _ _ (fun hg => szFactS.ret _ _ ?_ ?_ ?_) rfl ?_)
      | refine AV.bool_congr ?_ | refine AV.int_congr ?_ | refine AV.str_congr ?_ | refine AV.list_congr ?_ | with_reducible rfl | refine fr1 ?_ | refine fr2 ?_ ?_
    all_goals first
      | assumption
      | omega
      | exact left_eq (by omega)
  by_cases c2 : a < (tPattern.size f.1 : Int) + (tFcts.size f.2 : Int)
  · have e0 : left a (tPattern.size f.1) = a - (tPattern.size f.1 : Int) := by rw [left, if_neg (by omega)]
    have e1 : left (left a (tPattern.size f.1)) (tFcts.size f.2) = -1 := by rw [e0, left, if_pos (by omega)]
    repeat' first
      | contradiction | exact trivial
      | (conv => whnf
         first | refine Need.mk (fun h => h) ?_ | refine Need.mk rfl ?_ | refine Need.mk ⟨rfl, Nat.le_of_ble_eq_true rfl⟩ ?_ | refine Need.mk (Nat.le_of_ble_eq_true rfl) ?_ | refine Need.fin ?_ | refine Need.mk ?_ ?_ | refine Ix.strsF rfl ?_ | refine Ix.strs rfl ?_ ?_ | refine Cut.strs rfl ?_ ?_ | refine Ix.mapF (fun _ => rfl) ?_ | refine Ix.map (fun _ => rfl) ?_ ?_ | refine Cut.map (fun _ => rfl) ?_ ?_ | refine Fork.yes (by assumption) ?_ | refine Fork.no (by assumption) ?_ | refine Fork.decYes (by omega) ?_ | refine Fork.decNo (by omega) ?_ | refine Fork.dec (fun _ => ?_) (fun _ => ?_) | refine Fork.bne (fun _ => ?_) (fun _ => ?_) | refine Fork.beq (fun _ => ?_) (fun _ => ?_) | refine Fork.seq (fun _ => ?_) (fun _ => ?_) | refine Fork.sne (fun _ => ?_) (fun _ => ?_) | refine Fork.neg (fun _ => ?_) (fun _ => ?_) | refine Fork.mk (fun _ => ?_) (fun _ => ?_) | refine HAlt.mk ?_ ?_ | apply HJoin.mk3 | exact HEnd.mk rfl rfl rfl | refine HEnd.mk ?_ ?_ ?_ | refine Round.mk ?_ | refine NilQ.mk (fun b hb => ?_) | refine forceK_of ?_ | refine forceBx_of ?_ | refine unG_old ?_ | refine unG_gv ?_ | refine Lit.read rfl ?_ | refine LitO.own rfl ?_ | refine FinVal.keep ?_ | refine FinAgg.keep ?_ | refine Final.mk rfl rfl | refine Final.mk ?_ rfl | refine Final.mk ?_ ?_ | refine FinalT.mk ?_ ?_ | refine FinalI.mk ?_ | refine FinalC.allA ?_ | refine ACall.scalA _ _ (szPattern.ret _ _ ?_ ?_ ?_) rfl ?_ | refine AQCall.mkA _ _ (fun hg => szPattern.ret _ _ ?_ ?_ ?_) rfl ?_ | refine AGCall.mkA _ _ (fun hg => szPattern.ret _ _ ?_ ?_ ?_) rfl ?_ | refine ACall.scalA _ _ (szFactS.ret _ _ ?_ ?_ ?_) rfl ?_ | refine AQCall.mkA _ _ (fun hg => szFactS.ret _ _ ?_ ?_ ?_) rfl ?_ | refine AGCall.mkA _ _ (fun hg => szFactS.ret _ _ ?_ ?_ ?_) rfl ?_)
      | refine AV.bool_congr ?_ | refine AV.int_congr ?_ | refine AV.str_congr ?_ | refine AV.list_congr ?_ | with_reducible rfl | refine fr1 ?_ | refine fr2 ?_ ?_
    all_goals first
      | assumption
      | omega
      | exact left_eq (by omega)
  have e0 : left a (tPattern.size f.1) = a - (tPattern.size f.1 : Int) := by rw [left, if_neg (by omega)]
  have e1 : left (left a (tPattern.size f.1)) (tFcts.size f.2) = a - (tPattern.size f.1 : Int) - (tFcts.size f.2 : Int) := by rw [e0, left, if_neg (by omega)]
  repeat' first
    | contradiction | exact trivial
    | (conv => whnf
       first | refine Need.mk (fun h => h) ?_ | refine Need.mk rfl ?_ | refine Need.mk ⟨rfl, Nat.le_of_ble_eq_true rfl⟩ ?_ | refine Need.mk (Nat.le_of_ble_eq_true rfl) ?_ | refine Need.fin ?_ | refine Need.mk ?_ ?_ | refine Ix.strsF rfl ?_ | refine Ix.strs rfl ?_ ?_ | refine Cut.strs rfl ?_ ?_ | refine Ix.mapF (fun _ => rfl) ?_ | refine Ix.map (fun _ => rfl) ?_ ?_ | refine Cut.map (fun _ => rfl) ?_ ?_ | refine Fork.yes (by assumption) ?_ | refine Fork.no (by assumption) ?_ | refine Fork.decYes (by omega) ?_ | refine Fork.decNo (by omega) ?_ | refine Fork.dec (fun _ => ?_) (fun _ => ?_) | refine Fork.bne (fun _ => ?_) (fun _ => ?_) | refine Fork.beq (fun _ => ?_) (fun _ => ?_) | refine Fork.seq (fun _ => ?_) (fun _ => ?_) | refine Fork.sne (fun _ => ?_) (fun _ => ?_) | refine Fork.neg (fun _ => ?_) (fun _ => ?_) | refine Fork.mk (fun _ => ?_) (fun _ => ?_) | refine HAlt.mk ?_ ?_ | apply HJoin.mk3 | exact HEnd.mk rfl rfl rfl | refine HEnd.mk ?_ ?_ ?_ | refine Round.mk ?_ | refine NilQ.mk (fun b hb => ?_) | refine forceK_of ?_ | refine forceBx_of ?_ | refine unG_old ?_ | refine unG_gv ?_ | refine Lit.read rfl ?_ | refine LitO.own rfl ?_ | refine FinVal.keep ?_ | refine FinAgg.keep ?_ | refine Final.mk rfl rfl | refine Final.mk ?_ rfl | refine Final.mk ?_ ?_ | refine FinalT.mk ?_ ?_ | refine FinalI.mk ?_ | refine FinalC.allA ?_ | refine ACall.scalA _ _ (szPattern.ret _ _ ?_ ?_ ?_) rfl ?_ | refine AQCall.mkA _ _ (fun hg => szPattern.ret _ _ ?_ ?_ ?_) rfl ?_ | refine AGCall.mkA _ _ (fun hg => szPattern.ret _ _ ?_ ?_ ?_) rfl ?_ | refine ACall.scalA _ _ (szFactS.ret _ _ ?_ ?_ ?_) rfl ?_ | refine AQCall.mkA _ _ (fun hg => szFactS.ret _ _ ?_ ?_ ?_) rfl ?_ | refine AGCall.mkA _ _ (fun hg => szFactS.ret _ _ ?_ ?_ ?_) rfl ?_)
    | refine AV.bool_congr ?_ | refine AV.int_congr ?_ | refine AV.str_congr ?_ | refine AV.list_congr ?_ | with_reducible rfl | refine fr1 ?_ | refine fr2 ?_ ?_
  all_goals first
    | assumption
    | omega
    | exact left_eq (by omega)
theorem eqAlpha.big (f g : VAlpha) (h : tAlpha.size f ≤ 1099511627775) : eqAlpha.Ret [.agg (oldL (tAlpha.q f)), .agg (oldL (tAlpha.q g))] (.val (.bool (decide (f = g)))) [] := by
  refine eqAlpha.of rfl ?_
  have hz := tAlpha_size f
  repeat' first
    | contradiction | exact trivial
    | (conv => whnf
       first | refine Need.mk (fun h => h) ?_ | refine Need.mk rfl ?_ | refine Need.mk ⟨rfl, Nat.le_of_ble_eq_true rfl⟩ ?_ | refine Need.mk (Nat.le_of_ble_eq_true rfl) ?_ | refine Need.fin ?_ | refine Need.mk ?_ ?_ | refine Ix.strsF rfl ?_ | refine Ix.strs rfl ?_ ?_ | refine Cut.strs rfl ?_ ?_ | refine Ix.mapF (fun _ => rfl) ?_ | refine Ix.map (fun _ => rfl) ?_ ?_ | refine Cut.map (fun _ => rfl) ?_ ?_ | refine Fork.yes (by assumption) ?_ | refine Fork.no (by assumption) ?_ | refine Fork.decYes (by omega) ?_ | refine Fork.decNo (by omega) ?_ | refine Fork.dec (fun _ => ?_) (fun _ => ?_) | refine Fork.bne (fun _ => ?_) (fun _ => ?_) | refine Fork.beq (fun _ => ?_) (fun _ => ?_) | refine Fork.seq (fun _ => ?_) (fun _ => ?_) | refine Fork.sne (fun _ => ?_) (fun _ => ?_) | refine Fork.neg (fun _ => ?_) (fun _ => ?_) | refine Fork.mk (fun _ => ?_) (fun _ => ?_) | refine HAlt.mk ?_ ?_ | apply HJoin.mk3 | exact HEnd.mk rfl rfl rfl | refine HEnd.mk ?_ ?_ ?_ | refine Round.mk ?_ | refine NilQ.mk (fun b hb => ?_) | refine forceK_of ?_ | refine forceBx_of ?_ | refine unG_old ?_ | refine unG_gv ?_ | refine Lit.read rfl ?_ | refine LitO.own rfl ?_ | refine FinVal.keep ?_ | refine FinAgg.keep ?_ | refine Final.mk rfl rfl | refine Final.mk ?_ rfl | refine Final.mk ?_ ?_ | refine FinalT.mk ?_ ?_ | refine FinalI.mk ?_ | refine FinalC.allA ?_ | refine ACall.scalA _ _ (eqPattern.big _ _ ?_) rfl ?_ | refine AQCall.mkA _ _ (fun hg => eqPattern.big _ _ ?_) rfl ?_ | refine AGCall.mkA _ _ (fun hg => eqPattern.big _ _ ?_) rfl ?_ | refine ACall.scalA _ _ (eqFactS.big _ _ ?_) rfl ?_ | refine AQCall.mkA _ _ (fun hg => eqFactS.big _ _ ?_) rfl ?_ | refine AGCall.mkA _ _ (fun hg => eqFactS.big _ _ ?_) rfl ?_)
    | refine AV.bool_congr ?_ | refine AV.int_congr ?_ | refine AV.str_congr ?_ | refine AV.list_congr ?_ | with_reducible rfl | refine fr1 ?_ | refine fr2 ?_ ?_
  all_goals first
    | omega
    | (simp only [tStrs_size, tInts_size] at *; omega)
    | (obtain ⟨⟨x00, x01⟩, x1⟩ := f; obtain ⟨⟨y00, y01⟩, y1⟩ := g; simp_all)
theorem toAlphaS.ret (l : List VAlpha) (h : tAlphas.size l ≤ 1048576) : toAlphaS.Ret [.list none (rows tAlpha l)] (.list (some (0 + (frs tAlpha l).length)) (tks tAlpha l 0)) (tAlphas.fr l) := by
  refine toAlphaS.of rfl ?_
  rw [tAlphas_sz] at h
  repeat' first
    | contradiction | exact trivial
    | (conv => whnf
       first | refine Need.mk (fun h => h) ?_ | refine Need.mk rfl ?_ | refine Need.mk ⟨rfl, Nat.le_of_ble_eq_true rfl⟩ ?_ | refine Need.mk (Nat.le_of_ble_eq_true rfl) ?_ | refine Need.fin ?_ | refine Need.mk ?_ ?_ | refine Ix.strsF rfl ?_ | refine Ix.strs rfl ?_ ?_ | refine Cut.strs rfl ?_ ?_ | refine Ix.mapF (fun _ => rfl) ?_ | refine Ix.map (fun _ => rfl) ?_ ?_ | refine Cut.map (fun _ => rfl) ?_ ?_ | refine Fork.yes (by assumption) ?_ | refine Fork.no (by assumption) ?_ | refine Fork.decYes (by omega) ?_ | refine Fork.decNo (by omega) ?_ | refine Fork.dec (fun _ => ?_) (fun _ => ?_) | refine Fork.bne (fun _ => ?_) (fun _ => ?_) | refine Fork.beq (fun _ => ?_) (fun _ => ?_) | refine Fork.seq (fun _ => ?_) (fun _ => ?_) | refine Fork.sne (fun _ => ?_) (fun _ => ?_) | refine Fork.neg (fun _ => ?_) (fun _ => ?_) | refine Fork.mk (fun _ => ?_) (fun _ => ?_) | refine HAlt.mk ?_ ?_ | apply HJoin.mk3 | exact HEnd.mk rfl rfl rfl | refine HEnd.mk ?_ ?_ ?_ | refine Round.mk ?_ | refine NilQ.mk (fun b hb => ?_) | refine forceK_of ?_ | refine forceBx_of ?_ | refine unG_old ?_ | refine unG_gv ?_ | refine Lit.read rfl ?_ | refine LitO.own rfl ?_ | refine FinVal.keep ?_ | refine FinAgg.keep ?_ | refine Final.mk rfl rfl | refine Final.mk ?_ rfl | refine Final.mk ?_ ?_ | refine FinalT.mk ?_ ?_ | refine FinalI.mk ?_ | refine FinalC.allA ?_)
    | refine AV.bool_congr ?_ | refine AV.int_congr ?_ | refine AV.str_congr ?_ | refine AV.list_congr ?_ | with_reducible rfl | refine fr1 ?_ | refine fr2 ?_ ?_
  refine ALoop.mk Nat (fun i => ⟨[(0, .list none (rows tAlpha l)), (3, .bsl 0 l.length), (4, .val (.int .i64 i))], [.cells (.row 106 3) (part [.str [], .val (.slice none 0 0), .val (.slice none 0 0)] (tks tAlpha l 0) i)], frs tAlpha (l.take i)⟩) (fun i => i ≤ l.length) (fun i => l.length - i) ⟨0, Nat.zero_le _, ?_⟩ (fun i hi => ?_)
  · repeat' first
      | exact trivial | refine Weak.mk ?_ ?_ ?_ ?_ (Or.inl (Nat.le_of_ble_eq_true rfl)) | refine Weak.mk ?_ ?_ ?_ ?_ (Or.inr ⟨(by repeat' first | exact trivial | exact Nat.le_of_ble_eq_true rfl | refine And.intro ?_ ?_), (by repeat' first | exact trivial | exact Nat.le_of_ble_eq_true rfl | refine And.intro ?_ ?_)⟩) | refine Weak.mk ?_ ?_ ?_ ?_ ?_ | refine And.intro ?_ ?_ | with_reducible rfl | exact Nat.le_of_ble_eq_true rfl | refine fr1 ?_ | refine fr2 ?_ ?_ | refine AV.int_congr ?_ | refine AV.bool_congr ?_ | refine AV.str_congr ?_ | refine AV.list_congr ?_ | refine AV.bsl_congr ?_ ?_ | (apply rfl)
    · simp
    · simp only [List.nil_append, List.length_cons, List.length_nil, List.take_succ_cons, List.take_zero]
      rw [part_made (xs := tks tAlpha l 0) (sz := 3) rfl (by decide) (by simp [length_tks])]; rfl
  repeat' first
    | contradiction | exact trivial
    | (conv => whnf
       first | refine Need.mk (fun h => h) ?_ | refine Need.mk rfl ?_ | refine Need.mk ⟨rfl, Nat.le_of_ble_eq_true rfl⟩ ?_ | refine Need.mk (Nat.le_of_ble_eq_true rfl) ?_ | refine Need.fin ?_ | refine Need.mk ?_ ?_ | refine Ix.strsF rfl ?_ | refine Ix.strs rfl ?_ ?_ | refine Cut.strs rfl ?_ ?_ | refine Ix.mapF (fun _ => rfl) ?_ | refine Ix.map (fun _ => rfl) ?_ ?_ | refine Cut.map (fun _ => rfl) ?_ ?_ | refine Fork.yes (by assumption) ?_ | refine Fork.no (by assumption) ?_ | refine Fork.decYes (by omega) ?_ | refine Fork.decNo (by omega) ?_ | refine Fork.dec (fun _ => ?_) (fun _ => ?_) | refine Fork.bne (fun _ => ?_) (fun _ => ?_) | refine Fork.beq (fun _ => ?_) (fun _ => ?_) | refine Fork.seq (fun _ => ?_) (fun _ => ?_) | refine Fork.sne (fun _ => ?_) (fun _ => ?_) | refine Fork.neg (fun _ => ?_) (fun _ => ?_) | refine Fork.mk (fun _ => ?_) (fun _ => ?_) | refine HAlt.mk ?_ ?_ | apply HJoin.mk3 | exact HEnd.mk rfl rfl rfl | refine HEnd.mk ?_ ?_ ?_ | refine Round.mk ?_ | refine NilQ.mk (fun b hb => ?_) | refine forceK_of ?_ | refine forceBx_of ?_ | refine unG_old ?_ | refine unG_gv ?_ | refine Lit.read rfl ?_ | refine LitO.own rfl ?_ | refine FinVal.keep ?_ | refine FinAgg.keep ?_ | refine Final.mk rfl rfl | refine Final.mk ?_ rfl | refine Final.mk ?_ ?_ | refine FinalT.mk ?_ ?_ | refine FinalI.mk ?_ | refine FinalC.allA ?_ | refine ACall.mk_Alpha _ _ (toAlpha.ret _ ?_) (by repeat' first | exact SeesL.nil | refine SeesL.cons ?_ ?_ | exact SeesB.of0 (Sees0.val _) | exact SeesB.of0 (Sees0.str _) | exact SeesB.of0 (Sees0.olds _ _) | exact SeesB.of0 (Sees0.old _) | exact SeesB.of0 (Sees0.oldagg _) | exact SeesB.of0 Sees0.nil | exact Sees0.val _ | exact Sees0.str _ | exact Sees0.olds _ _ | exact Sees0.old _ | exact Sees0.oldagg _ | exact Sees0.nil | exact SeesB.of0 (Sees0.any _) | assumption | exact sees_gv _ _ _ (by assumption) (by first | assumption | exact BoxIn.last _ _ | exact BoxIn.more (BoxIn.last _ _) _) | refine SeesB.agg ?_ | refine Sees0.agg ?_ | exact SeesB.of0 (Sees0.clo SeesL.nil SeesL.nil) | exact Sees0.clo SeesL.nil SeesL.nil | exact SeesB.of0 (Sees0.list rfl) | exact Sees0.list rfl) ?_)
    | refine AV.bool_congr ?_ | refine AV.int_congr ?_ | refine AV.str_congr ?_ | refine AV.list_congr ?_ | with_reducible rfl | refine fr1 ?_ | refine fr2 ?_ ?_
  · rename_i h1
    rw [length_rows] at h1
    have := listSize_mem tAlpha (List.mem_of_getElem? (tAlpha_get (l := l) (i := i) (by omega)))
    rw [Int.toNat_natCast]; omega
  · rename_i h1
    rw [length_rows] at h1
    rw [part_len (sz := 3) rfl (tks_sz tAlpha l 0) (by rw [length_tks]; exact hi), Int.toNat_natCast, length_tks]
    exact ⟨rfl, by omega⟩
  · rename_i h1
    rw [length_rows] at h1
    refine ⟨i + 1, by omega, ?_, by omega⟩
    repeat' first
      | exact trivial | refine Weak.mk ?_ ?_ ?_ ?_ (Or.inl (Nat.le_of_ble_eq_true rfl)) | refine Weak.mk ?_ ?_ ?_ ?_ (Or.inr ⟨(by repeat' first | exact trivial | exact Nat.le_of_ble_eq_true rfl | refine And.intro ?_ ?_), (by repeat' first | exact trivial | exact Nat.le_of_ble_eq_true rfl | refine And.intro ?_ ?_)⟩) | refine Weak.mk ?_ ?_ ?_ ?_ ?_ | refine And.intro ?_ ?_ | with_reducible rfl | exact Nat.le_of_ble_eq_true rfl | refine fr1 ?_ | refine fr2 ?_ ?_ | refine AV.int_congr ?_ | refine AV.bool_congr ?_ | refine AV.str_congr ?_ | refine AV.list_congr ?_ | refine AV.bsl_congr ?_ ?_ | (apply rfl)
    · rw [wrap64 (by omega) (by omega)]; rfl
    · have := part_set (z := [.str [], .val (.slice none 0 0), .val (.slice none 0 0)]) (sz := 3) rfl (tks_sz tAlpha l 0) (tks_get tAlpha 0 (tAlpha_get (l := l) (i := i) (by omega)))
      rw [Nat.zero_add] at this
      simp only [List.set_cons_zero, List.take_succ_cons, List.take_zero, List.length_cons, List.length_nil, Int.toNat_natCast, this]
    · show frs tAlpha (l.take i) ++ tAlpha.fr (l.getD (i : Int).toNat default) = frs tAlpha (l.take (i + 1))
      rw [Int.toNat_natCast, take_succ' default (by omega), frs_append]; simp [frs]
  · rename_i h1
    rw [length_rows] at h1
    conv => whnf
    have : i = l.length := by omega
    subst this
    have hall := part_all [.str [], .val (.slice none 0 0), .val (.slice none 0 0)] (tks tAlpha l 0)
    rw [length_tks] at hall
    refine FreezeD.flat (Freeze.mk (tks tAlpha l 0) _ 106 3 rfl hall (length_tks _ _ _) (tks_sz tAlpha l 0) (fun c hc => ?_) ?_)
    · rw [hall] at hc; exact tks_nr tAlpha l 0 c hc
    · refine Final.mk ?_ ?_
      · rw [List.take_length, Nat.zero_add]
      · rw [List.take_length]; rfl
theorem szAlphaS.ret (l : List VAlpha) (a : Int) (h0 : 0 ≤ a) (ha : a ≤ 1048576) (hb : tAlphas.bd l) :
    szAlphaS.Ret [.list none (rows tAlpha l), .val (.int .i64 a)] (.val (.int .i64 (left a (tAlphas.size l)))) [] := by
  refine szAlphaS.of rfl ?_
  obtain ⟨hl, hb⟩ := hb
  have hw : IntKind.i64.wrap (a - ((rows tAlpha l).length : Int)) = a - l.length := by rw [length_rows]; exact wrap64 (by omega) (by omega)
  have hz := tAlphas_sz l
  repeat' first
    | contradiction | exact trivial
    | (conv => whnf
       first | refine Need.mk (fun h => h) ?_ | refine Need.mk rfl ?_ | refine Need.mk ⟨rfl, Nat.le_of_ble_eq_true rfl⟩ ?_ | refine Need.mk (Nat.le_of_ble_eq_true rfl) ?_ | refine Need.fin ?_ | refine Need.mk ?_ ?_ | refine Ix.strsF rfl ?_ | refine Ix.strs rfl ?_ ?_ | refine Cut.strs rfl ?_ ?_ | refine Ix.mapF (fun _ => rfl) ?_ | refine Ix.map (fun _ => rfl) ?_ ?_ | refine Cut.map (fun _ => rfl) ?_ ?_ | refine Fork.yes (by assumption) ?_ | refine Fork.no (by assumption) ?_ | refine Fork.decYes (by omega) ?_ | refine Fork.decNo (by omega) ?_ | refine Fork.dec (fun _ => ?_) (fun _ => ?_) | refine Fork.bne (fun _ => ?_) (fun _ => ?_) | refine Fork.beq (fun _ => ?_) (fun _ => ?_) | refine Fork.seq (fun _ => ?_) (fun _ => ?_) | refine Fork.sne (fun _ => ?_) (fun _ => ?_) | refine Fork.neg (fun _ => ?_) (fun _ => ?_) | refine Fork.mk (fun _ => ?_) (fun _ => ?_) | refine HAlt.mk ?_ ?_ | apply HJoin.mk3 | exact HEnd.mk rfl rfl rfl | refine HEnd.mk ?_ ?_ ?_ | refine Round.mk ?_ | refine NilQ.mk (fun b hb => ?_) | refine forceK_of ?_ | refine forceBx_of ?_ | refine unG_old ?_ | refine unG_gv ?_ | refine Lit.read rfl ?_ | refine LitO.own rfl ?_ | refine FinVal.keep ?_ | refine FinAgg.keep ?_ | refine Final.mk rfl rfl | refine Final.mk ?_ rfl | refine Final.mk ?_ ?_ | refine FinalT.mk ?_ ?_ | refine FinalI.mk ?_ | refine FinalC.allA ?_)
    | refine AV.bool_congr ?_ | refine AV.int_congr ?_ | refine AV.str_congr ?_ | refine AV.list_congr ?_ | with_reducible rfl | refine fr1 ?_ | refine fr2 ?_ ?_
  · rename_i h
    rw [hw] at h
    rw [left, if_pos (by omega)]
  rename_i h
  rw [hw] at h
  repeat' first
    | contradiction | exact trivial
    | (conv => whnf
       first | refine Need.mk (fun h => h) ?_ | refine Need.mk rfl ?_ | refine Need.mk ⟨rfl, Nat.le_of_ble_eq_true rfl⟩ ?_ | refine Need.mk (Nat.le_of_ble_eq_true rfl) ?_ | refine Need.fin ?_ | refine Need.mk ?_ ?_ | refine Ix.strsF rfl ?_ | refine Ix.strs rfl ?_ ?_ | refine Cut.strs rfl ?_ ?_ | refine Ix.mapF (fun _ => rfl) ?_ | refine Ix.map (fun _ => rfl) ?_ ?_ | refine Cut.map (fun _ => rfl) ?_ ?_ | refine Fork.yes (by assumption) ?_ | refine Fork.no (by assumption) ?_ | refine Fork.decYes (by omega) ?_ | refine Fork.decNo (by omega) ?_ | refine Fork.dec (fun _ => ?_) (fun _ => ?_) | refine Fork.bne (fun _ => ?_) (fun _ => ?_) | refine Fork.beq (fun _ => ?_) (fun _ => ?_) | refine Fork.seq (fun _ => ?_) (fun _ => ?_) | refine Fork.sne (fun _ => ?_) (fun _ => ?_) | refine Fork.neg (fun _ => ?_) (fun _ => ?_) | refine Fork.mk (fun _ => ?_) (fun _ => ?_) | refine HAlt.mk ?_ ?_ | apply HJoin.mk3 | exact HEnd.mk rfl rfl rfl | refine HEnd.mk ?_ ?_ ?_ | refine Round.mk ?_ | refine NilQ.mk (fun b hb => ?_) | refine forceK_of ?_ | refine forceBx_of ?_ | refine unG_old ?_ | refine unG_gv ?_ | refine Lit.read rfl ?_ | refine LitO.own rfl ?_ | refine FinVal.keep ?_ | refine FinAgg.keep ?_ | refine Final.mk rfl rfl | refine Final.mk ?_ rfl | refine Final.mk ?_ ?_ | refine FinalT.mk ?_ ?_ | refine FinalI.mk ?_ | refine FinalC.allA ?_)
    | refine AV.bool_congr ?_ | refine AV.int_congr ?_ | refine AV.str_congr ?_ | refine AV.list_congr ?_ | with_reducible rfl | refine fr1 ?_ | refine fr2 ?_ ?_
  refine ALoop.mk Nat (fun i => ⟨[(0, .list none (rows tAlpha l)), (1, .val (.int .i64 (a - l.length - listSize tAlpha (l.take i)))), (5, .val (.int .i64 i))], [], []⟩) (fun i => i ≤ l.length ∧ (0 : Int) ≤ a - l.length - listSize tAlpha (l.take i)) (fun i => l.length - i) ⟨0, ⟨Nat.zero_le _, by simp [listSize]; omega⟩, ?_⟩ (fun i hi => ?_)
  · repeat' first
      | exact trivial | refine Weak.mk ?_ ?_ ?_ ?_ (Or.inl (Nat.le_of_ble_eq_true rfl)) | refine Weak.mk ?_ ?_ ?_ ?_ (Or.inr ⟨(by repeat' first | exact trivial | exact Nat.le_of_ble_eq_true rfl | refine And.intro ?_ ?_), (by repeat' first | exact trivial | exact Nat.le_of_ble_eq_true rfl | refine And.intro ?_ ?_)⟩) | refine Weak.mk ?_ ?_ ?_ ?_ ?_ | refine And.intro ?_ ?_ | with_reducible rfl | exact Nat.le_of_ble_eq_true rfl | refine fr1 ?_ | refine fr2 ?_ ?_ | refine AV.int_congr ?_ | refine AV.bool_congr ?_ | refine AV.str_congr ?_ | refine AV.list_congr ?_ | refine AV.bsl_congr ?_ ?_ | (apply rfl)
    rw [hw]; simp [listSize]
  obtain ⟨hp1, hp2⟩ := hi
  have hle := listSize_take_le tAlpha l (i + 1)
  have hbi : i < l.length → tAlpha.bd (l.getD i default) := fun h => hb _ (List.mem_of_getElem? (tAlpha_get h))
  have hsz : i < l.length → listSize tAlpha (l.take (i + 1)) = listSize tAlpha (l.take i) + tAlpha.size (l.getD i default) := fun h => listSize_take_succ tAlpha (tAlpha_get h)
  repeat' first
    | contradiction | exact trivial
    | (conv => whnf
       first | refine Need.mk (fun h => h) ?_ | refine Need.mk rfl ?_ | refine Need.mk ⟨rfl, Nat.le_of_ble_eq_true rfl⟩ ?_ | refine Need.mk (Nat.le_of_ble_eq_true rfl) ?_ | refine Need.fin ?_ | refine Need.mk ?_ ?_ | refine Ix.strsF rfl ?_ | refine Ix.strs rfl ?_ ?_ | refine Cut.strs rfl ?_ ?_ | refine Ix.mapF (fun _ => rfl) ?_ | refine Ix.map (fun _ => rfl) ?_ ?_ | refine Cut.map (fun _ => rfl) ?_ ?_ | refine Fork.yes (by assumption) ?_ | refine Fork.no (by assumption) ?_ | refine Fork.decYes (by omega) ?_ | refine Fork.decNo (by omega) ?_ | refine Fork.dec (fun _ => ?_) (fun _ => ?_) | refine Fork.bne (fun _ => ?_) (fun _ => ?_) | refine Fork.beq (fun _ => ?_) (fun _ => ?_) | refine Fork.seq (fun _ => ?_) (fun _ => ?_) | refine Fork.sne (fun _ => ?_) (fun _ => ?_) | refine Fork.neg (fun _ => ?_) (fun _ => ?_) | refine Fork.mk (fun _ => ?_) (fun _ => ?_) | refine HAlt.mk ?_ ?_ | apply HJoin.mk3 | exact HEnd.mk rfl rfl rfl | refine HEnd.mk ?_ ?_ ?_ | refine Round.mk ?_ | refine NilQ.mk (fun b hb => ?_) | refine forceK_of ?_ | refine forceBx_of ?_ | refine unG_old ?_ | refine unG_gv ?_ | refine Lit.read rfl ?_ | refine LitO.own rfl ?_ | refine FinVal.keep ?_ | refine FinAgg.keep ?_ | refine Final.mk rfl rfl | refine Final.mk ?_ rfl | refine Final.mk ?_ ?_ | refine FinalT.mk ?_ ?_ | refine FinalI.mk ?_ | refine FinalC.allA ?_ | refine ACall.scalA _ _ (szAlpha.ret _ _ ?_ ?_ ?_) rfl ?_ | refine AQCall.mkA _ _ (fun hg => szAlpha.ret _ _ ?_ ?_ ?_) rfl ?_ | refine AGCall.mkA _ _ (fun hg => szAlpha.ret _ _ ?_ ?_ ?_) rfl ?_)
    | refine AV.bool_congr ?_ | refine AV.int_congr ?_ | refine AV.str_congr ?_ | refine AV.list_congr ?_ | with_reducible rfl | refine fr1 ?_ | refine fr2 ?_ ?_
  · exact hp2
  · omega
  · rename_i h1
    rw [length_rows] at h1
    rw [Int.toNat_natCast]; exact hbi (by omega)
  · rename_i h1 h2
    rw [length_rows] at h1
    rw [Int.toNat_natCast] at h2
    have := hsz (by omega)
    unfold left at h2 ⊢
    split at h2
    · rw [if_pos (by omega)]
    · omega
  · rename_i h1 h2
    rw [length_rows] at h1
    rw [Int.toNat_natCast] at h2
    have := hsz (by omega)
    have e : left (a - ↑l.length - ↑(listSize tAlpha (l.take i))) (tAlpha.size (l.getD i default)) = a - ↑l.length - ↑(listSize tAlpha (l.take (i + 1))) := by
      unfold left at h2 ⊢
      split at h2
      · omega
      · rw [if_neg ‹_›]; omega
    refine ⟨i + 1, ⟨by omega, ?_⟩, ?_, by omega⟩
    · rw [← e]; omega
    · repeat' first
        | exact trivial | refine Weak.mk ?_ ?_ ?_ ?_ (Or.inl (Nat.le_of_ble_eq_true rfl)) | refine Weak.mk ?_ ?_ ?_ ?_ (Or.inr ⟨(by repeat' first | exact trivial | exact Nat.le_of_ble_eq_true rfl | refine And.intro ?_ ?_), (by repeat' first | exact trivial | exact Nat.le_of_ble_eq_true rfl | refine And.intro ?_ ?_)⟩) | refine Weak.mk ?_ ?_ ?_ ?_ ?_ | refine And.intro ?_ ?_ | with_reducible rfl | exact Nat.le_of_ble_eq_true rfl | refine fr1 ?_ | refine fr2 ?_ ?_ | refine AV.int_congr ?_ | refine AV.bool_congr ?_ | refine AV.str_congr ?_ | refine AV.list_congr ?_ | refine AV.bsl_congr ?_ ?_ | (apply rfl)
      · rw [Int.toNat_natCast]; exact e
      · rw [wrap64 (by omega) (by omega)]; rfl
  · rename_i h1
    rw [length_rows] at h1
    rw [List.take_of_length_le (by omega)] at hp2 ⊢
    rw [left, if_neg (by omega)]; omega
theorem eqAlphaS.big (l m : List VAlpha) (h : tAlphas.size l ≤ 1099511627775) : eqAlphaS.Ret [.list none (rows tAlpha l), .list none (rows tAlpha m)] (.val (.bool (decide (l = m)))) [] := by
  refine eqAlphaS.of rfl ?_
  rw [tAlphas_sz] at h
  repeat' first
    | contradiction | exact trivial
    | (conv => whnf
       first | refine Need.mk (fun h => h) ?_ | refine Need.mk rfl ?_ | refine Need.mk ⟨rfl, Nat.le_of_ble_eq_true rfl⟩ ?_ | refine Need.mk (Nat.le_of_ble_eq_true rfl) ?_ | refine Need.fin ?_ | refine Need.mk ?_ ?_ | refine Ix.strsF rfl ?_ | refine Ix.strs rfl ?_ ?_ | refine Cut.strs rfl ?_ ?_ | refine Ix.mapF (fun _ => rfl) ?_ | refine Ix.map (fun _ => rfl) ?_ ?_ | refine Cut.map (fun _ => rfl) ?_ ?_ | refine Fork.yes (by assumption) ?_ | refine Fork.no (by assumption) ?_ | refine Fork.decYes (by omega) ?_ | refine Fork.decNo (by omega) ?_ | refine Fork.dec (fun _ => ?_) (fun _ => ?_) | refine Fork.bne (fun _ => ?_) (fun _ => ?_) | refine Fork.beq (fun _ => ?_) (fun _ => ?_) | refine Fork.seq (fun _ => ?_) (fun _ => ?_) | refine Fork.sne (fun _ => ?_) (fun _ => ?_) | refine Fork.neg (fun _ => ?_) (fun _ => ?_) | refine Fork.mk (fun _ => ?_) (fun _ => ?_) | refine HAlt.mk ?_ ?_ | apply HJoin.mk3 | exact HEnd.mk rfl rfl rfl | refine HEnd.mk ?_ ?_ ?_ | refine Round.mk ?_ | refine NilQ.mk (fun b hb => ?_) | refine forceK_of ?_ | refine forceBx_of ?_ | refine unG_old ?_ | refine unG_gv ?_ | refine Lit.read rfl ?_ | refine LitO.own rfl ?_ | refine FinVal.keep ?_ | refine FinAgg.keep ?_ | refine Final.mk rfl rfl | refine Final.mk ?_ rfl | refine Final.mk ?_ ?_ | refine FinalT.mk ?_ ?_ | refine FinalI.mk ?_ | refine FinalC.allA ?_)
    | refine AV.bool_congr ?_ | refine AV.int_congr ?_ | refine AV.str_congr ?_ | refine AV.list_congr ?_ | with_reducible rfl | refine fr1 ?_ | refine fr2 ?_ ?_
  · rename_i h
    rw [length_rows, length_rows] at h
    have h3 : ¬ l = m := fun e => h (by rw [e])
    simp [h3]
  rename_i h
  rw [length_rows, length_rows] at h
  have h : l.length = m.length := by omega
  repeat' first
    | contradiction | exact trivial
    | (conv => whnf
       first | refine Need.mk (fun h => h) ?_ | refine Need.mk rfl ?_ | refine Need.mk ⟨rfl, Nat.le_of_ble_eq_true rfl⟩ ?_ | refine Need.mk (Nat.le_of_ble_eq_true rfl) ?_ | refine Need.fin ?_ | refine Need.mk ?_ ?_ | refine Ix.strsF rfl ?_ | refine Ix.strs rfl ?_ ?_ | refine Cut.strs rfl ?_ ?_ | refine Ix.mapF (fun _ => rfl) ?_ | refine Ix.map (fun _ => rfl) ?_ ?_ | refine Cut.map (fun _ => rfl) ?_ ?_ | refine Fork.yes (by assumption) ?_ | refine Fork.no (by assumption) ?_ | refine Fork.decYes (by omega) ?_ | refine Fork.decNo (by omega) ?_ | refine Fork.dec (fun _ => ?_) (fun _ => ?_) | refine Fork.bne (fun _ => ?_) (fun _ => ?_) | refine Fork.beq (fun _ => ?_) (fun _ => ?_) | refine Fork.seq (fun _ => ?_) (fun _ => ?_) | refine Fork.sne (fun _ => ?_) (fun _ => ?_) | refine Fork.neg (fun _ => ?_) (fun _ => ?_) | refine Fork.mk (fun _ => ?_) (fun _ => ?_) | refine HAlt.mk ?_ ?_ | apply HJoin.mk3 | exact HEnd.mk rfl rfl rfl | refine HEnd.mk ?_ ?_ ?_ | refine Round.mk ?_ | refine NilQ.mk (fun b hb => ?_) | refine forceK_of ?_ | refine forceBx_of ?_ | refine unG_old ?_ | refine unG_gv ?_ | refine Lit.read rfl ?_ | refine LitO.own rfl ?_ | refine FinVal.keep ?_ | refine FinAgg.keep ?_ | refine Final.mk rfl rfl | refine Final.mk ?_ rfl | refine Final.mk ?_ ?_ | refine FinalT.mk ?_ ?_ | refine FinalI.mk ?_ | refine FinalC.allA ?_)
    | refine AV.bool_congr ?_ | refine AV.int_congr ?_ | refine AV.str_congr ?_ | refine AV.list_congr ?_ | with_reducible rfl | refine fr1 ?_ | refine fr2 ?_ ?_
  refine ALoop.mk Nat (fun i => ⟨[(0, .list none (rows tAlpha l)), (1, .list none (rows tAlpha m)), (5, .val (.int .i64 i))], [], []⟩) (fun i => i ≤ l.length ∧ l.take i = m.take i) (fun i => l.length - i) ⟨0, ⟨Nat.zero_le _, rfl⟩, ?_⟩ (fun i hi => ?_)
  · repeat' first
      | exact trivial | refine Weak.mk ?_ ?_ ?_ ?_ (Or.inl (Nat.le_of_ble_eq_true rfl)) | refine Weak.mk ?_ ?_ ?_ ?_ (Or.inr ⟨(by repeat' first | exact trivial | exact Nat.le_of_ble_eq_true rfl | refine And.intro ?_ ?_), (by repeat' first | exact trivial | exact Nat.le_of_ble_eq_true rfl | refine And.intro ?_ ?_)⟩) | refine Weak.mk ?_ ?_ ?_ ?_ ?_ | refine And.intro ?_ ?_ | with_reducible rfl | exact Nat.le_of_ble_eq_true rfl | refine fr1 ?_ | refine fr2 ?_ ?_ | refine AV.int_congr ?_ | refine AV.bool_congr ?_ | refine AV.str_congr ?_ | refine AV.list_congr ?_ | refine AV.bsl_congr ?_ ?_ | (apply rfl)
  repeat' first
    | contradiction | exact trivial
    | (conv => whnf
       first | refine Need.mk (fun h => h) ?_ | refine Need.mk rfl ?_ | refine Need.mk ⟨rfl, Nat.le_of_ble_eq_true rfl⟩ ?_ | refine Need.mk (Nat.le_of_ble_eq_true rfl) ?_ | refine Need.fin ?_ | refine Need.mk ?_ ?_ | refine Ix.strsF rfl ?_ | refine Ix.strs rfl ?_ ?_ | refine Cut.strs rfl ?_ ?_ | refine Ix.mapF (fun _ => rfl) ?_ | refine Ix.map (fun _ => rfl) ?_ ?_ | refine Cut.map (fun _ => rfl) ?_ ?_ | refine Fork.yes (by assumption) ?_ | refine Fork.no (by assumption) ?_ | refine Fork.decYes (by omega) ?_ | refine Fork.decNo (by omega) ?_ | refine Fork.dec (fun _ => ?_) (fun _ => ?_) | refine Fork.bne (fun _ => ?_) (fun _ => ?_) | refine Fork.beq (fun _ => ?_) (fun _ => ?_) | refine Fork.seq (fun _ => ?_) (fun _ => ?_) | refine Fork.sne (fun _ => ?_) (fun _ => ?_) | refine Fork.neg (fun _ => ?_) (fun _ => ?_) | refine Fork.mk (fun _ => ?_) (fun _ => ?_) | refine HAlt.mk ?_ ?_ | apply HJoin.mk3 | exact HEnd.mk rfl rfl rfl | refine HEnd.mk ?_ ?_ ?_ | refine Round.mk ?_ | refine NilQ.mk (fun b hb => ?_) | refine forceK_of ?_ | refine forceBx_of ?_ | refine unG_old ?_ | refine unG_gv ?_ | refine Lit.read rfl ?_ | refine LitO.own rfl ?_ | refine FinVal.keep ?_ | refine FinAgg.keep ?_ | refine Final.mk rfl rfl | refine Final.mk ?_ rfl | refine Final.mk ?_ ?_ | refine FinalT.mk ?_ ?_ | refine FinalI.mk ?_ | refine FinalC.allA ?_ | refine ACall.scalA _ _ (eqAlpha.big _ _ ?_) rfl ?_ | refine AQCall.mkA _ _ (fun hg => eqAlpha.big _ _ ?_) rfl ?_ | refine AGCall.mkA _ _ (fun hg => eqAlpha.big _ _ ?_) rfl ?_)
    | refine AV.bool_congr ?_ | refine AV.int_congr ?_ | refine AV.str_congr ?_ | refine AV.list_congr ?_ | with_reducible rfl | refine fr1 ?_ | refine fr2 ?_ ?_
  · rename_i h1
    rw [length_rows] at h1
    have := listSize_mem tAlpha (List.mem_of_getElem? (tAlpha_get (l := l) (i := i) (by omega)))
    rw [Int.toNat_natCast]; omega
  · rename_i h1 h2
    have h3 : ¬ l = m := fun e => of_decide_eq_false h2 (by rw [e])
    simp [h3]
  · rename_i h1 h2
    rw [length_rows] at h1
    rw [Int.toNat_natCast] at h2
    refine ⟨i + 1, ⟨by omega, ?_⟩, ?_, by omega⟩
    · rw [take_succ' default (by omega), take_succ' (l := m) default (by omega), hi.2, of_decide_eq_true h2]
    · repeat' first
        | exact trivial | refine Weak.mk ?_ ?_ ?_ ?_ (Or.inl (Nat.le_of_ble_eq_true rfl)) | refine Weak.mk ?_ ?_ ?_ ?_ (Or.inr ⟨(by repeat' first | exact trivial | exact Nat.le_of_ble_eq_true rfl | refine And.intro ?_ ?_), (by repeat' first | exact trivial | exact Nat.le_of_ble_eq_true rfl | refine And.intro ?_ ?_)⟩) | refine Weak.mk ?_ ?_ ?_ ?_ ?_ | refine And.intro ?_ ?_ | with_reducible rfl | exact Nat.le_of_ble_eq_true rfl | refine fr1 ?_ | refine fr2 ?_ ?_ | refine AV.int_congr ?_ | refine AV.bool_congr ?_ | refine AV.str_congr ?_ | refine AV.list_congr ?_ | refine AV.bsl_congr ?_ ?_ | (apply rfl)
      rw [wrap64 (by omega) (by omega)]; rfl
  · rename_i h1
    rw [length_rows] at h1
    have h2 := hi.2
    rw [List.take_of_length_le (by omega), List.take_of_length_le (by omega)] at h2
    simp [h2]
theorem markAlphaS.tn (l : List VAlpha) (k : Nat) (hs : tAlphas.size l ≤ 1099511627775) (hk : k + cn (.l 106 3 (l.map tAlpha.q)) ≤ 1099511627775) :
    markAlphaS.Turn (gb (.l 106 3 (l.map tAlpha.q)) 0) [gv (.l 106 3 (l.map tAlpha.q)) 0, .val (.int .i64 k)] (.val (.int .i64 ((k + cn (.l 106 3 (l.map tAlpha.q)) : Nat)))) (gb (mk (.l 106 3 (l.map tAlpha.q)) k) 0) := by
  refine markAlphaS.ofT rfl rfl (by rw [length_gb, nb_mk]) ?_
  obtain ⟨cs, hcs⟩ : ∃ cs, cs = (l.map tAlpha.q).flatten := ⟨_, rfl⟩
  have hlen : cs.length = l.length * 3 := by rw [hcs]; exact flat_len _ 3 tAlpha.hq l
  have hc0 : ∀ i, i < l.length → cs[i * 3 + 0]? = some (.s (l.getD i default).1.1) := fun i hi => by rw [hcs]; exact cell_at tAlpha.q 3 tAlpha.hq hi rfl
  have hc1 : ∀ i, i < l.length → cs[i * 3 + 1]? = some (.l 9 1 ((l.getD i default).1.2.map Ty.str.q)) := fun i hi => by rw [hcs]; exact cell_at tAlpha.q 3 tAlpha.hq hi rfl
  have hc2 : ∀ i, i < l.length → cs[i * 3 + 2]? = some (.l 144 2 ((l.getD i default).2.map tFct.q)) := fun i hi => by rw [hcs]; exact cell_at tAlpha.q 3 tAlpha.hq hi rfl
  rw [gb_mk_l0, gb_l0, cn_l, gv, List.length_map, ← hcs]
  rw [cn_l, ← hcs] at hk
  clear hcs
  repeat' first
    | contradiction | exact trivial
    | (conv => whnf
       first | refine Need.mk (fun h => h) ?_ | refine Need.mk rfl ?_ | refine Need.mk ⟨rfl, Nat.le_of_ble_eq_true rfl⟩ ?_ | refine Need.mk (Nat.le_of_ble_eq_true rfl) ?_ | refine Need.fin ?_ | refine Need.mk ⟨rfl, by simp only [length_setAt, List.length_set, length_gvL, length_st, Int.toNat_natCast]; omega⟩ ?_ | refine Need.mk ?_ ?_ | refine Ix.strsF rfl ?_ | refine Ix.strs rfl ?_ ?_ | refine Cut.strs rfl ?_ ?_ | refine Ix.mapF (fun _ => rfl) ?_ | refine Ix.map (fun _ => rfl) ?_ ?_ | refine Cut.map (fun _ => rfl) ?_ ?_ | refine Fork.yes (by assumption) ?_ | refine Fork.no (by assumption) ?_ | refine Fork.decYes (by omega) ?_ | refine Fork.decNo (by omega) ?_ | refine Fork.dec (fun _ => ?_) (fun _ => ?_) | refine Fork.bne (fun _ => ?_) (fun _ => ?_) | refine Fork.beq (fun _ => ?_) (fun _ => ?_) | refine Fork.seq (fun _ => ?_) (fun _ => ?_) | refine Fork.sne (fun _ => ?_) (fun _ => ?_) | refine Fork.neg (fun _ => ?_) (fun _ => ?_) | refine Fork.mk (fun _ => ?_) (fun _ => ?_) | refine HAlt.mk ?_ ?_ | apply HJoin.mk3 | exact HEnd.mk rfl rfl rfl | refine HEnd.mk ?_ ?_ ?_ | refine Round.mk ?_ | refine NilQ.mk (fun b hb => ?_) | refine forceK_of ?_ | refine forceBx_of ?_ | refine unG_old ?_ | refine unG_gv ?_ | refine Lit.read rfl ?_ | refine LitO.own rfl ?_ | refine FinVal.keep ?_ | refine FinAgg.keep ?_ | refine Final.mk rfl rfl | refine Final.mk ?_ rfl | refine Final.mk ?_ ?_ | refine FinalT.mk ?_ ?_ | refine FinalI.mk ?_ | refine FinalC.allA ?_)
    | refine AV.bool_congr ?_ | refine AV.int_congr ?_ | refine AV.str_congr ?_ | refine AV.list_congr ?_ | with_reducible rfl | refine fr1 ?_ | refine fr2 ?_ ?_
  refine ALoop.mk Nat (fun i => ⟨[(0, .bsl 0 l.length), (1, .val (.int .i64 ((k + cnC (cs.take (i * 3)) : Nat)))), (5, .val (.int .i64 i))], .cells (.row 106 3) (gvL (st cs k (i * 3)) 1) :: gbL (st cs k (i * 3)) 1, []⟩) (fun i => i ≤ l.length) (fun i => l.length - i) ⟨0, Nat.zero_le _, ?_⟩ (fun i hi => ?_)
  · refine weak_st ⟨rfl, ?_, rfl, trivial⟩ ?_ ?_ rfl ?_
    · rw [Nat.zero_mul]; rfl
    · rw [Nat.zero_mul, st_zero]
    · rw [Nat.zero_mul, st_zero]
    · rw [Nat.zero_mul, st_zero, List.length_cons]; exact Nat.le_refl _
  have hle := cn_take_le cs (i * 3)
  rw [tAlphas_sz] at hs
  rcases Nat.lt_or_ge i l.length with hlt | hge
  rotate_left
  · have hiw : i * 3 = cs.length := by omega
    repeat' first
      | contradiction | exact trivial
      | (conv => whnf
         first | refine Need.mk (fun h => h) ?_ | refine Need.mk rfl ?_ | refine Need.mk ⟨rfl, Nat.le_of_ble_eq_true rfl⟩ ?_ | refine Need.mk (Nat.le_of_ble_eq_true rfl) ?_ | refine Need.fin ?_ | refine Need.mk ⟨rfl, by simp only [length_setAt, List.length_set, length_gvL, length_st, Int.toNat_natCast]; omega⟩ ?_ | refine Need.mk ?_ ?_ | refine Ix.strsF rfl ?_ | refine Ix.strs rfl ?_ ?_ | refine Cut.strs rfl ?_ ?_ | refine Ix.mapF (fun _ => rfl) ?_ | refine Ix.map (fun _ => rfl) ?_ ?_ | refine Cut.map (fun _ => rfl) ?_ ?_ | refine Fork.yes (by assumption) ?_ | refine Fork.no (by assumption) ?_ | refine Fork.decYes (by omega) ?_ | refine Fork.decNo (by omega) ?_ | refine Fork.dec (fun _ => ?_) (fun _ => ?_) | refine Fork.bne (fun _ => ?_) (fun _ => ?_) | refine Fork.beq (fun _ => ?_) (fun _ => ?_) | refine Fork.seq (fun _ => ?_) (fun _ => ?_) | refine Fork.sne (fun _ => ?_) (fun _ => ?_) | refine Fork.neg (fun _ => ?_) (fun _ => ?_) | refine Fork.mk (fun _ => ?_) (fun _ => ?_) | refine HAlt.mk ?_ ?_ | apply HJoin.mk3 | exact HEnd.mk rfl rfl rfl | refine HEnd.mk ?_ ?_ ?_ | refine Round.mk ?_ | refine NilQ.mk (fun b hb => ?_) | refine forceK_of ?_ | refine forceBx_of ?_ | refine unG_old ?_ | refine unG_gv ?_ | refine Lit.read rfl ?_ | refine LitO.own rfl ?_ | refine FinVal.keep ?_ | refine FinAgg.keep ?_ | refine Final.mk rfl rfl | refine Final.mk ?_ rfl | refine Final.mk ?_ ?_ | refine FinalT.mk ?_ ?_ | refine FinalI.mk ?_ | refine FinalC.allA ?_)
      | refine AV.bool_congr ?_ | refine AV.int_congr ?_ | refine AV.str_congr ?_ | refine AV.list_congr ?_ | with_reducible rfl | refine fr1 ?_ | refine fr2 ?_ ?_
    · rw [hiw, List.take_length]
    · rw [hiw, st_all cs k rfl]; exact take_all (by rw [List.length_cons, List.length_cons, length_gbL, length_gbL, nbL_mkC]; exact Nat.le_refl _)
  have hi1 : (i + 1) * 3 = i * 3 + 3 := by omega
  have hsz := tAlpha_le hlt
  have hz31 := tAlpha_size (l.getD i default)
  have hz32 := tPattern_size (l.getD i default).1
  repeat' first
    | contradiction | exact trivial
    | (conv => whnf
       first | refine Need.mk (fun h => h) ?_ | refine Need.mk rfl ?_ | refine Need.mk ⟨rfl, Nat.le_of_ble_eq_true rfl⟩ ?_ | refine Need.mk (Nat.le_of_ble_eq_true rfl) ?_ | refine Need.fin ?_ | refine Need.mk ⟨rfl, by simp only [length_setAt, List.length_set, length_gvL, length_st, Int.toNat_natCast]; omega⟩ ?_ | refine Need.mk ?_ ?_ | refine Ix.strsF rfl ?_ | refine Ix.strs rfl ?_ ?_ | refine Cut.strs rfl ?_ ?_ | refine Ix.mapF (fun _ => rfl) ?_ | refine Ix.map (fun _ => rfl) ?_ ?_ | refine Cut.map (fun _ => rfl) ?_ ?_ | refine Fork.yes (by assumption) ?_ | refine Fork.no (by assumption) ?_ | refine Fork.decYes (by omega) ?_ | refine Fork.decNo (by omega) ?_ | refine Fork.dec (fun _ => ?_) (fun _ => ?_) | refine Fork.bne (fun _ => ?_) (fun _ => ?_) | refine Fork.beq (fun _ => ?_) (fun _ => ?_) | refine Fork.seq (fun _ => ?_) (fun _ => ?_) | refine Fork.sne (fun _ => ?_) (fun _ => ?_) | refine Fork.neg (fun _ => ?_) (fun _ => ?_) | refine Fork.mk (fun _ => ?_) (fun _ => ?_) | refine HAlt.mk ?_ ?_ | apply HJoin.mk3 | exact HEnd.mk rfl rfl rfl | refine HEnd.mk ?_ ?_ ?_ | refine Round.mk ?_ | refine NilQ.mk (fun b hb => ?_) | refine forceK_of ?_ | refine forceBx_of ?_ | refine unG_old ?_ | refine unG_gv ?_ | refine Lit.read rfl ?_ | refine LitO.own rfl ?_ | refine FinVal.keep ?_ | refine FinAgg.keep ?_ | refine Final.mk rfl rfl | refine Final.mk ?_ rfl | refine Final.mk ?_ ?_ | refine FinalT.mk ?_ ?_ | refine FinalI.mk ?_ | refine FinalC.allA ?_)
    | refine AV.bool_congr ?_ | refine AV.int_congr ?_ | refine AV.str_congr ?_ | refine AV.list_congr ?_ | with_reducible rfl | refine fr1 ?_ | refine fr2 ?_ ?_
  have l0 := cn_take_le cs (i * 3 + 1)
  have n0 : cnC (cs.take (i * 3 + 1)) = cnC (cs.take (i * 3)) + 1 := cn_succ (hc0 i hlt)
  have w0 : IntKind.i64.wrap (((k + cnC (cs.take (i * 3)) : Nat) : Int) + 1) = ((k + cnC (cs.take (i * 3 + 1)) : Nat) : Int) := by rw [wrap64 (by omega) (by omega)]; omega
  have b0 : gbL (st cs k (i * 3 + 1)) 1 = gbL (st cs k (i * 3)) 1 := gbL_st k 1 (hc0 i hlt) rfl
  have g0 : gvL (st cs k (i * 3 + 1)) 1 = (gvL (st cs k (i * 3)) 1).set (i * 3) (.str (markF (k + cnC (cs.take (i * 3))))) := gvL_st k 1 (hc0 i hlt)
  conv => whnf
  refine ACall.scal [.val (.int .i64 ((k + cnC (cs.take (i * 3)) : Nat)))] _ (markText.ret (k + cnC (cs.take (i * 3))) (by omega)) rfl (.cons (SeesB.of0 (by exact Sees0.val _)) .nil) ?_
  repeat' first
    | contradiction | exact trivial
    | (conv => whnf
       first | refine Need.mk (fun h => h) ?_ | refine Need.mk rfl ?_ | refine Need.mk ⟨rfl, Nat.le_of_ble_eq_true rfl⟩ ?_ | refine Need.mk (Nat.le_of_ble_eq_true rfl) ?_ | refine Need.fin ?_ | refine Need.mk ⟨rfl, by simp only [length_setAt, List.length_set, length_gvL, length_st, Int.toNat_natCast]; omega⟩ ?_ | refine Need.mk ?_ ?_ | refine Ix.strsF rfl ?_ | refine Ix.strs rfl ?_ ?_ | refine Cut.strs rfl ?_ ?_ | refine Ix.mapF (fun _ => rfl) ?_ | refine Ix.map (fun _ => rfl) ?_ ?_ | refine Cut.map (fun _ => rfl) ?_ ?_ | refine Fork.yes (by assumption) ?_ | refine Fork.no (by assumption) ?_ | refine Fork.decYes (by omega) ?_ | refine Fork.decNo (by omega) ?_ | refine Fork.dec (fun _ => ?_) (fun _ => ?_) | refine Fork.bne (fun _ => ?_) (fun _ => ?_) | refine Fork.beq (fun _ => ?_) (fun _ => ?_) | refine Fork.seq (fun _ => ?_) (fun _ => ?_) | refine Fork.sne (fun _ => ?_) (fun _ => ?_) | refine Fork.neg (fun _ => ?_) (fun _ => ?_) | refine Fork.mk (fun _ => ?_) (fun _ => ?_) | refine HAlt.mk ?_ ?_ | apply HJoin.mk3 | exact HEnd.mk rfl rfl rfl | refine HEnd.mk ?_ ?_ ?_ | refine Round.mk ?_ | refine NilQ.mk (fun b hb => ?_) | refine forceK_of ?_ | refine forceBx_of ?_ | refine unG_old ?_ | refine unG_gv ?_ | refine Lit.read rfl ?_ | refine LitO.own rfl ?_ | refine FinVal.keep ?_ | refine FinAgg.keep ?_ | refine Final.mk rfl rfl | refine Final.mk ?_ rfl | refine Final.mk ?_ ?_ | refine FinalT.mk ?_ ?_ | refine FinalI.mk ?_ | refine FinalC.allA ?_)
    | refine AV.bool_congr ?_ | refine AV.int_congr ?_ | refine AV.str_congr ?_ | refine AV.list_congr ?_ | with_reducible rfl | refine fr1 ?_ | refine fr2 ?_ ?_
  have l1 := cn_take_le cs (i * 3 + 2)
  have n1 : cnC (cs.take (i * 3 + 2)) = cnC (cs.take (i * 3 + 1)) + cn (.l 9 1 ((l.getD i default).1.2.map Ty.str.q)) := cn_succ (hc1 i hlt)
  have g1 : gvL (st cs k (i * 3 + 2)) 1 = gvL (st cs k (i * 3 + 1)) 1 := gvL_stL k 1 (hc1 i hlt)
  have t1 : markStringS.Turn (gb (.l 9 1 ((l.getD i default).1.2.map Ty.str.q)) 0) [gv (.l 9 1 ((l.getD i default).1.2.map Ty.str.q)) 0, .val (.int .i64 ((k + cnC (cs.take (i * 3 + 1)) : Nat)))] (.val (.int .i64 ((k + cnC (cs.take (i * 3 + 2)) : Nat)))) (gb (mk (.l 9 1 ((l.getD i default).1.2.map Ty.str.q)) (k + cnC (cs.take (i * 3 + 1)))) 0) := by
    have h := markStringS.tn (l.getD i default).1.2 (k + cnC (cs.take (i * 3 + 1))) (by omega) (by omega)
    rw [Nat.add_assoc, ← n1] at h; exact h
  have d1 : ((gvL (st cs k (i * 3)) 1).set (i * 3) (.str (markF (k + cnC (cs.take (i * 3)))))).drop (i * 3 + 1) = gv (.l 9 1 ((l.getD i default).1.2.map Ty.str.q)) (1 + nbL (cs.take (i * 3 + 1))) :: gvL (cs.drop (i * 3 + 1 + 1)) (1 + nbL (cs.take (i * 3 + 1)) + nb (.l 9 1 ((l.getD i default).1.2.map Ty.str.q))) := by
    have h := ld_st k 1 (hc1 i hlt)
    try simp only [Nat.add_zero] at h
    rw [g0] at h
    exact h
  conv => whnf
  refine takeAV_one (n := 1) _ _ d1 ?_
  conv => whnf
  refine ACall.turn' (.cells (.row 106 3) ((gvL (st cs k (i * 3)) 1).set (i * 3) (.str (markF (k + cnC (cs.take (i * 3)))))) :: gbL (st cs k (i * 3 + 2)) 1) [gv (.l 9 1 ((l.getD i default).1.2.map Ty.str.q)) 0, .val (.int .i64 ((k + cnC (cs.take (i * 3 + 1)) : Nat)))] (.l 9 1 ((l.getD i default).1.2.map Ty.str.q)) (mk (.l 9 1 ((l.getD i default).1.2.map Ty.str.q)) (k + cnC (cs.take (i * 3 + 1)))) _ (.cells (.row 106 3) ((gvL (st cs k (i * 3)) 1).set (i * 3) (.str (markF (k + cnC (cs.take (i * 3)))))) :: gbL (mkC (cs.take (i * 3 + 1)) k) 1) (gbL (cs.drop (i * 3 + 1 + 1)) (1 + nbL (cs.take (i * 3 + 1)) + nb (.l 9 1 ((l.getD i default).1.2.map Ty.str.q)))) t1 rfl ?_ (nb_mk _ _) (.cons (.inl ⟨by rw [pre_st]; rfl, rfl⟩) (.cons (.inr (by rw [w0]; exact Sees0.val _)) .nil)) ?_ ?_
  · rw [← b0]; exact bx_st k (hc1 i hlt) _
  · exact bx_st' k (hc1 i hlt) _
  repeat' first
    | contradiction | exact trivial
    | (conv => whnf
       first | refine Need.mk (fun h => h) ?_ | refine Need.mk rfl ?_ | refine Need.mk ⟨rfl, Nat.le_of_ble_eq_true rfl⟩ ?_ | refine Need.mk (Nat.le_of_ble_eq_true rfl) ?_ | refine Need.fin ?_ | refine Need.mk ⟨rfl, by simp only [length_setAt, List.length_set, length_gvL, length_st, Int.toNat_natCast]; omega⟩ ?_ | refine Need.mk ?_ ?_ | refine Ix.strsF rfl ?_ | refine Ix.strs rfl ?_ ?_ | refine Cut.strs rfl ?_ ?_ | refine Ix.mapF (fun _ => rfl) ?_ | refine Ix.map (fun _ => rfl) ?_ ?_ | refine Cut.map (fun _ => rfl) ?_ ?_ | refine Fork.yes (by assumption) ?_ | refine Fork.no (by assumption) ?_ | refine Fork.decYes (by omega) ?_ | refine Fork.decNo (by omega) ?_ | refine Fork.dec (fun _ => ?_) (fun _ => ?_) | refine Fork.bne (fun _ => ?_) (fun _ => ?_) | refine Fork.beq (fun _ => ?_) (fun _ => ?_) | refine Fork.seq (fun _ => ?_) (fun _ => ?_) | refine Fork.sne (fun _ => ?_) (fun _ => ?_) | refine Fork.neg (fun _ => ?_) (fun _ => ?_) | refine Fork.mk (fun _ => ?_) (fun _ => ?_) | refine HAlt.mk ?_ ?_ | apply HJoin.mk3 | exact HEnd.mk rfl rfl rfl | refine HEnd.mk ?_ ?_ ?_ | refine Round.mk ?_ | refine NilQ.mk (fun b hb => ?_) | refine forceK_of ?_ | refine forceBx_of ?_ | refine unG_old ?_ | refine unG_gv ?_ | refine Lit.read rfl ?_ | refine LitO.own rfl ?_ | refine FinVal.keep ?_ | refine FinAgg.keep ?_ | refine Final.mk rfl rfl | refine Final.mk ?_ rfl | refine Final.mk ?_ ?_ | refine FinalT.mk ?_ ?_ | refine FinalI.mk ?_ | refine FinalC.allA ?_)
    | refine AV.bool_congr ?_ | refine AV.int_congr ?_ | refine AV.str_congr ?_ | refine AV.list_congr ?_ | with_reducible rfl | refine fr1 ?_ | refine fr2 ?_ ?_
  have l2 := cn_take_le cs (i * 3 + 3)
  have n2 : cnC (cs.take (i * 3 + 3)) = cnC (cs.take (i * 3 + 2)) + cn (.l 144 2 ((l.getD i default).2.map tFct.q)) := cn_succ (hc2 i hlt)
  have g2 : gvL (st cs k (i * 3 + 3)) 1 = gvL (st cs k (i * 3 + 2)) 1 := gvL_stL k 1 (hc2 i hlt)
  have t2 : markFactS.Turn (gb (.l 144 2 ((l.getD i default).2.map tFct.q)) 0) [gv (.l 144 2 ((l.getD i default).2.map tFct.q)) 0, .val (.int .i64 ((k + cnC (cs.take (i * 3 + 2)) : Nat)))] (.val (.int .i64 ((k + cnC (cs.take (i * 3 + 3)) : Nat)))) (gb (mk (.l 144 2 ((l.getD i default).2.map tFct.q)) (k + cnC (cs.take (i * 3 + 2)))) 0) := by
    have h := markFactS.tn (l.getD i default).2 (k + cnC (cs.take (i * 3 + 2))) (by omega) (by omega)
    rw [Nat.add_assoc, ← n2] at h; exact h
  have d2 : ((gvL (st cs k (i * 3)) 1).set (i * 3) (.str (markF (k + cnC (cs.take (i * 3)))))).drop (i * 3 + 2) = gv (.l 144 2 ((l.getD i default).2.map tFct.q)) (1 + nbL (cs.take (i * 3 + 2))) :: gvL (cs.drop (i * 3 + 2 + 1)) (1 + nbL (cs.take (i * 3 + 2)) + nb (.l 144 2 ((l.getD i default).2.map tFct.q))) := by
    have h := ld_st k 1 (hc2 i hlt)
    try simp only [Nat.add_zero] at h
    rw [g1, g0] at h
    exact h
  conv => whnf
  refine takeAV_one (n := 1) _ _ d2 ?_
  conv => whnf
  refine ACall.turn' (.cells (.row 106 3) ((gvL (st cs k (i * 3)) 1).set (i * 3) (.str (markF (k + cnC (cs.take (i * 3)))))) :: gbL (st cs k (i * 3 + 3)) 1) [gv (.l 144 2 ((l.getD i default).2.map tFct.q)) 0, .val (.int .i64 ((k + cnC (cs.take (i * 3 + 2)) : Nat)))] (.l 144 2 ((l.getD i default).2.map tFct.q)) (mk (.l 144 2 ((l.getD i default).2.map tFct.q)) (k + cnC (cs.take (i * 3 + 2)))) _ (.cells (.row 106 3) ((gvL (st cs k (i * 3)) 1).set (i * 3) (.str (markF (k + cnC (cs.take (i * 3)))))) :: gbL (mkC (cs.take (i * 3 + 2)) k) 1) (gbL (cs.drop (i * 3 + 2 + 1)) (1 + nbL (cs.take (i * 3 + 2)) + nb (.l 144 2 ((l.getD i default).2.map tFct.q)))) t2 rfl ?_ (nb_mk _ _) (.cons (.inl ⟨by rw [pre_st]; rfl, rfl⟩) (.cons (.inr (by exact Sees0.val _)) .nil)) ?_ ?_
  · exact bx_st k (hc2 i hlt) _
  · exact bx_st' k (hc2 i hlt) _
  repeat' first
    | contradiction | exact trivial
    | (conv => whnf
       first | refine Need.mk (fun h => h) ?_ | refine Need.mk rfl ?_ | refine Need.mk ⟨rfl, Nat.le_of_ble_eq_true rfl⟩ ?_ | refine Need.mk (Nat.le_of_ble_eq_true rfl) ?_ | refine Need.fin ?_ | refine Need.mk ⟨rfl, by simp only [length_setAt, List.length_set, length_gvL, length_st, Int.toNat_natCast]; omega⟩ ?_ | refine Need.mk ?_ ?_ | refine Ix.strsF rfl ?_ | refine Ix.strs rfl ?_ ?_ | refine Cut.strs rfl ?_ ?_ | refine Ix.mapF (fun _ => rfl) ?_ | refine Ix.map (fun _ => rfl) ?_ ?_ | refine Cut.map (fun _ => rfl) ?_ ?_ | refine Fork.yes (by assumption) ?_ | refine Fork.no (by assumption) ?_ | refine Fork.decYes (by omega) ?_ | refine Fork.decNo (by omega) ?_ | refine Fork.dec (fun _ => ?_) (fun _ => ?_) | refine Fork.bne (fun _ => ?_) (fun _ => ?_) | refine Fork.beq (fun _ => ?_) (fun _ => ?_) | refine Fork.seq (fun _ => ?_) (fun _ => ?_) | refine Fork.sne (fun _ => ?_) (fun _ => ?_) | refine Fork.neg (fun _ => ?_) (fun _ => ?_) | refine Fork.mk (fun _ => ?_) (fun _ => ?_) | refine HAlt.mk ?_ ?_ | apply HJoin.mk3 | exact HEnd.mk rfl rfl rfl | refine HEnd.mk ?_ ?_ ?_ | refine Round.mk ?_ | refine NilQ.mk (fun b hb => ?_) | refine forceK_of ?_ | refine forceBx_of ?_ | refine unG_old ?_ | refine unG_gv ?_ | refine Lit.read rfl ?_ | refine LitO.own rfl ?_ | refine FinVal.keep ?_ | refine FinAgg.keep ?_ | refine Final.mk rfl rfl | refine Final.mk ?_ rfl | refine Final.mk ?_ ?_ | refine FinalT.mk ?_ ?_ | refine FinalI.mk ?_ | refine FinalC.allA ?_)
    | refine AV.bool_congr ?_ | refine AV.int_congr ?_ | refine AV.str_congr ?_ | refine AV.list_congr ?_ | with_reducible rfl | refine fr1 ?_ | refine fr2 ?_ ?_
  refine ⟨i + 1, by omega, weak_st ⟨rfl, AV.int_congr ?_, AV.int_congr ?_, trivial⟩ (congrArg (ABox.cells (.row 106 3)) ?_) ?_ rfl ?_, by omega⟩
  · rw [hi1]
  · rw [wrap64 (by omega) (by omega)]; rfl
  · rw [hi1, g2, g1, g0]
    try rfl
  · rw [hi1]
  · simp only [hi1, List.length_cons, length_gbL, nbL_st, Nat.le_refl]
end Go.Proofs.Ytfnejdkkhpjhmaa
namespace Go.Proofs.Ytfnejdkkhpjhmaa
open Abs
abbrev VPair := Str × Str
instance : DecidableEq VPair := instDecidableEqProd
def tPair : Ty VPair := Ty.pair Ty.str Ty.str
theorem tPair_size (a : VPair) : tPair.size a = a.1.length + a.2.length := rfl
theorem tPair_cn : CnB tPair 2 := CnB.pair CnB.str CnB.str
def tPairs : Ty (List VPair) := Ty.plain 65 tPair (fun _ => rfl) (fun _ => rfl)
theorem tPairs_sz (l : List VPair) : tPairs.size l = l.length + listSize tPair l := rfl
theorem tPair_get {l : List VPair} {i : Nat} (hi : i < l.length) : l[i]? = some (l.getD i default) := by simp [List.getD, hi]
theorem tPair_le {l : List VPair} {i : Nat} (hi : i < l.length) : tPair.size (l.getD i default) ≤ listSize tPair l := listSize_mem tPair (List.mem_of_getElem? (tPair_get hi))
theorem Abs.ACall.mk_Pair {C : Con} {lend : Bool} {f : Nat} {vs : List AV} {b : List ABox} {fr : Fr} {k : AV → List ABox → Fr → Prop} (ys : List AV) (a : VPair) (h : C.ret f ys (.agg (tPair.tk a 0)) []) (hv : SeesL Sees0 vs ys)
    (hk : k (.agg (tPair.tk a 0)) b fr) : ACall C lend f vs b fr k := by
  refine ACall.mkA tPair ys a h hv ?_
  show k _ b (fr ++ [])
  rw [List.append_nil]; exact hk
theorem Abs.ACall.mk_PairS {C : Con} {lend : Bool} {f : Nat} {vs : List AV} {b : List ABox} {fr : Fr} {k : AV → List ABox → Fr → Prop} (ys : List AV) (l : List VPair) (h : C.ret f ys (.list (some 0) (rows tPair l)) [(65, 2, l.length)]) (hv : SeesL Sees0 vs ys)
    (hk : k (.list (some fr.length) (rows tPair l)) b (fr ++ [(65, 2, l.length)])) : ACall C lend f vs b fr k :=
  ACall.mkV tPairs ys l (fun n => .list (some n) (rows tPair l)) (fun _ => rfl) h hv hk
theorem toPair.ret (a : VPair) (h : tPair.size a ≤ 1048576) : toPair.Ret [.agg (oldL (tPair.q a))] (.agg (tPair.tk a 0)) [] := by
  refine toPair.of rfl ?_
  rw [tPair_size] at h
  repeat' first
    | (conv => whnf
       first | refine Need.mk ⟨rfl, Nat.le_of_ble_eq_true rfl⟩ ?_ | refine Need.mk (Nat.le_of_ble_eq_true rfl) ?_ | refine FinAgg.keep ?_ | refine Final.mk rfl rfl)
  all_goals first
    | omega
    | (refine congrArg AV.agg ?_
       repeat' first
         | refine cons_congr ?_ ?_
         | refine tok_congr ?_ ?_
         | refine congrArg (tks _ _) ?_
         | rfl
       all_goals (simp [Ty.pair, Ty.str, Ty.int, Ty.bool, Nat.add_assoc]; done))
    | (simp [tPair, Ty.pair, Ty.str, Ty.int, Ty.bool, List.append_assoc, Nat.add_assoc]; done)
theorem szPair.ret (f : VPair) (a : Int) (h0 : 0 ≤ a) (ha : a ≤ 1048576) (hb : tPair.bd f) :
    szPair.Ret [.agg (oldL (tPair.q f)), .val (.int .i64 a)] (.val (.int .i64 (left a (tPair.size f)))) [] := by
  refine szPair.of rfl ?_
  have hz := tPair_size f
  obtain ⟨hb0, hb1⟩ := hb
  have hb0 : f.1.length ≤ 9223372036854775807 := hb0
  have hb1 : f.2.length ≤ 9223372036854775807 := hb1
  by_cases c1 : a < (f.1.length : Int)
  · have e0 : IntKind.i64.wrap (a - (f.1.length : Int)) = a - (f.1.length : Int) := by rw [wrap64 (by omega) (by omega)]
    repeat' first
      | (conv => whnf
         first | refine Need.mk rfl ?_ | refine Fork.decYes (by omega) ?_ | refine LitO.own rfl ?_ | refine FinVal.keep ?_ | refine Final.mk ?_ rfl)
      | refine AV.int_congr ?_
    all_goals first
      | assumption
      | omega
      | exact left_eq (by omega)
  by_cases c2 : a < (f.1.length : Int) + (f.2.length : Int)
  · have e0 : IntKind.i64.wrap (a - (f.1.length : Int)) = a - (f.1.length : Int) := by rw [wrap64 (by omega) (by omega)]
    have e1 : IntKind.i64.wrap (IntKind.i64.wrap (a - (f.1.length : Int)) - (f.2.length : Int)) = a - (f.1.length : Int) - (f.2.length : Int) := by rw [e0, wrap64 (by omega) (by omega)]
    repeat' first
      | (conv => whnf
         first | refine Need.mk rfl ?_ | refine Fork.decYes (by omega) ?_ | refine Fork.decNo (by omega) ?_ | refine LitO.own rfl ?_ | refine FinVal.keep ?_ | refine Final.mk ?_ rfl)
      | refine AV.int_congr ?_
    all_goals first
      | assumption
      | omega
      | exact left_eq (by omega)
  have e0 : IntKind.i64.wrap (a - (f.1.length : Int)) = a - (f.1.length : Int) := by rw [wrap64 (by omega) (by omega)]
  have e1 : IntKind.i64.wrap (IntKind.i64.wrap (a - (f.1.length : Int)) - (f.2.length : Int)) = a - (f.1.length : Int) - (f.2.length : Int) := by rw [e0, wrap64 (by omega) (by omega)]
  repeat' first
    | (conv => whnf
       first | refine Need.mk rfl ?_ | refine Fork.decNo (by omega) ?_ | refine LitO.own rfl ?_ | refine FinVal.keep ?_ | refine Final.mk ?_ rfl)
    | refine AV.int_congr ?_
  all_goals first
    | assumption
    | omega
    | exact left_eq (by omega)
theorem eqPair.big (f g : VPair) (h : tPair.size f ≤ 1099511627775) : eqPair.Ret [.agg (oldL (tPair.q f)), .agg (oldL (tPair.q g))] (.val (.bool (decide (f = g)))) [] := by
  refine eqPair.of rfl ?_
  have hz := tPair_size f
  repeat' first
    | (conv => whnf
       first | refine Fork.sne (fun _ => ?_) (fun _ => ?_) | refine FinVal.keep ?_ | refine Final.mk ?_ rfl)
    | refine AV.bool_congr ?_
  all_goals first
    | omega
    | (simp only [tStrs_size, tInts_size] at *; omega)
    | (obtain ⟨x0, x1⟩ := f; obtain ⟨y0, y1⟩ := g; simp_all)
theorem toPairS.ret (l : List VPair) (h : tPairs.size l ≤ 1048576) : toPairS.Ret [.list none (rows tPair l)] (.list (some 0) (rows tPair l)) [(65, 2, l.length)] := by
  refine toPairS.of rfl ?_
  rw [tPairs_sz] at h
  repeat' first
    | (conv => whnf
       first | refine Need.fin ?_)
  refine ALoop.mk Nat (fun i => ⟨[(0, .list none (rows tPair l)), (3, .bsl 0 l.length), (4, .val (.int .i64 i))], [.cells (.row 65 2) (part [.str [], .str []] (rows tPair l) i)], []⟩) (fun i => i ≤ l.length) (fun i => l.length - i) ⟨0, Nat.zero_le _, ?_⟩ (fun i hi => ?_)
  · repeat' first
      | exact trivial | refine Weak.mk ?_ ?_ ?_ ?_ (Or.inl (Nat.le_of_ble_eq_true rfl)) | refine And.intro ?_ ?_ | with_reducible rfl | exact Nat.le_of_ble_eq_true rfl | refine AV.int_congr ?_ | refine AV.list_congr ?_ | refine AV.bsl_congr ?_ ?_ | (apply rfl)
    · simp
    · simp only [List.nil_append, List.length_cons, List.length_nil, List.take_succ_cons, List.take_zero]
      rw [part_made (xs := rows tPair l) (sz := 2) rfl (by decide) (by simp)]; rfl
  have hsz : ∀ c ∈ rows tPair l, c.length = 2 := oldLL_sz tPair.hq
  repeat' first
    | (conv => whnf
       first | refine Need.mk rfl ?_ | refine Need.mk (Nat.le_of_ble_eq_true rfl) ?_ | refine Need.fin ?_ | refine Need.mk ?_ ?_ | refine Ix.mapF (fun _ => rfl) ?_ | refine Fork.dec (fun _ => ?_) (fun _ => ?_) | refine Round.mk ?_ | refine LitO.own rfl ?_ | refine ACall.mk_Pair _ _ (toPair.ret _ ?_) (by repeat' first | exact SeesL.nil | refine SeesL.cons ?_ ?_ | exact SeesB.of0 (Sees0.val _) | exact SeesB.of0 (Sees0.str _) | exact SeesB.of0 (Sees0.olds _ _) | exact SeesB.of0 (Sees0.old _) | exact SeesB.of0 (Sees0.oldagg _) | exact SeesB.of0 Sees0.nil | exact Sees0.val _ | exact Sees0.str _ | exact Sees0.olds _ _ | exact Sees0.old _ | exact Sees0.oldagg _ | exact Sees0.nil | exact SeesB.of0 (Sees0.any _) | assumption | exact sees_gv _ _ _ (by assumption) (by first | assumption | exact BoxIn.last _ _ | exact BoxIn.more (BoxIn.last _ _) _) | refine SeesB.agg ?_ | refine Sees0.agg ?_ | exact SeesB.of0 (Sees0.clo SeesL.nil SeesL.nil) | exact Sees0.clo SeesL.nil SeesL.nil | exact SeesB.of0 (Sees0.list rfl) | exact Sees0.list rfl) ?_)
  · rename_i h1
    rw [length_rows] at h1
    have := listSize_mem tPair (List.mem_of_getElem? (tPair_get (l := l) (i := i) (by omega)))
    rw [Int.toNat_natCast]; omega
  · rename_i h1
    rw [length_rows] at h1
    rw [part_len (sz := 2) rfl hsz (by rw [length_rows]; exact hi), Int.toNat_natCast, length_rows]
    exact ⟨rfl, by omega⟩
  · rename_i h1
    rw [length_rows] at h1
    refine ⟨i + 1, by omega, ?_, by omega⟩
    repeat' first
      | exact trivial | refine Weak.mk ?_ ?_ ?_ ?_ (Or.inl (Nat.le_of_ble_eq_true rfl)) | refine And.intro ?_ ?_ | with_reducible rfl | exact Nat.le_of_ble_eq_true rfl | refine AV.int_congr ?_ | refine AV.list_congr ?_ | refine AV.bsl_congr ?_ ?_
    · rw [wrap64 (by omega) (by omega)]; rfl
    · have hg : (rows tPair l)[i]? = some (oldL (tPair.q (l.getD i default))) := by rw [rows, oldLL_eq, List.getElem?_map, List.getElem?_map, tPair_get (by omega), oldL_eq]; rfl
      have := part_set (z := [.str [], .str []]) (sz := 2) rfl hsz hg
      simp only [List.set_cons_zero, List.take_succ_cons, List.take_zero, List.length_cons, List.length_nil, Int.toNat_natCast]
      exact congrArg (fun c => [ABox.cells (.row 65 2) c]) this
  · rename_i h1
    rw [length_rows] at h1
    conv => whnf
    have : i = l.length := by omega
    subst this
    have hall := part_all [.str [], .str []] (rows tPair l)
    rw [length_rows] at hall
    refine FreezeD.flat (Freeze.mk (rows tPair l) _ 65 2 rfl hall (length_rows _ _) hsz (fun c hc => ?_) ?_)
    · rw [hall, ← rowsP_tks tPair (fun _ => rfl) (fun _ => rfl)] at hc; exact tks_nr tPair l 0 c hc
    · exact Final.mk rfl rfl
theorem szPairS.ret (l : List VPair) (a : Int) (h0 : 0 ≤ a) (ha : a ≤ 1048576) (hb : tPairs.bd l) :
    szPairS.Ret [.list none (rows tPair l), .val (.int .i64 a)] (.val (.int .i64 (left a (tPairs.size l)))) [] := by
  refine szPairS.of rfl ?_
  obtain ⟨hl, hb⟩ := hb
  have hw : IntKind.i64.wrap (a - ((rows tPair l).length : Int)) = a - l.length := by rw [length_rows]; exact wrap64 (by omega) (by omega)
  have hz := tPairs_sz l
  repeat' first
    | (conv => whnf
       first | refine Need.mk rfl ?_ | refine Fork.dec (fun _ => ?_) (fun _ => ?_) | refine LitO.own rfl ?_ | refine FinVal.keep ?_ | refine Final.mk ?_ rfl)
    | refine AV.int_congr ?_
  · rename_i h
    rw [hw] at h
    rw [left, if_pos (by omega)]
  rename_i h
  rw [hw] at h
  skip
  refine ALoop.mk Nat (fun i => ⟨[(0, .list none (rows tPair l)), (1, .val (.int .i64 (a - l.length - listSize tPair (l.take i)))), (5, .val (.int .i64 i))], [], []⟩) (fun i => i ≤ l.length ∧ (0 : Int) ≤ a - l.length - listSize tPair (l.take i)) (fun i => l.length - i) ⟨0, ⟨Nat.zero_le _, by simp [listSize]; omega⟩, ?_⟩ (fun i hi => ?_)
  · repeat' first
      | exact trivial | refine Weak.mk ?_ ?_ ?_ ?_ (Or.inl (Nat.le_of_ble_eq_true rfl)) | refine And.intro ?_ ?_ | with_reducible rfl | exact Nat.le_of_ble_eq_true rfl | refine AV.int_congr ?_ | refine AV.list_congr ?_ | (apply rfl)
    rw [hw]; simp [listSize]
  obtain ⟨hp1, hp2⟩ := hi
  have hle := listSize_take_le tPair l (i + 1)
  have hbi : i < l.length → tPair.bd (l.getD i default) := fun h => hb _ (List.mem_of_getElem? (tPair_get h))
  have hsz : i < l.length → listSize tPair (l.take (i + 1)) = listSize tPair (l.take i) + tPair.size (l.getD i default) := fun h => listSize_take_succ tPair (tPair_get h)
  repeat' first
    | (conv => whnf
       first | refine Need.mk rfl ?_ | refine Need.mk (Nat.le_of_ble_eq_true rfl) ?_ | refine Ix.mapF (fun _ => rfl) ?_ | refine Fork.dec (fun _ => ?_) (fun _ => ?_) | refine Round.mk ?_ | refine LitO.own rfl ?_ | refine FinVal.keep ?_ | refine Final.mk ?_ rfl | refine ACall.scalA _ _ (szPair.ret _ _ ?_ ?_ ?_) rfl ?_)
    | refine AV.int_congr ?_
  · exact hp2
  · omega
  · rename_i h1
    rw [length_rows] at h1
    rw [Int.toNat_natCast]; exact hbi (by omega)
  · rename_i h1 h2
    rw [length_rows] at h1
    rw [Int.toNat_natCast] at h2
    have := hsz (by omega)
    unfold left at h2 ⊢
    split at h2
    · rw [if_pos (by omega)]
    · omega
  · rename_i h1 h2
    rw [length_rows] at h1
    rw [Int.toNat_natCast] at h2
    have := hsz (by omega)
    have e : left (a - ↑l.length - ↑(listSize tPair (l.take i))) (tPair.size (l.getD i default)) = a - ↑l.length - ↑(listSize tPair (l.take (i + 1))) := by
      unfold left at h2 ⊢
      split at h2
      · omega
      · rw [if_neg ‹_›]; omega
    refine ⟨i + 1, ⟨by omega, ?_⟩, ?_, by omega⟩
    · rw [← e]; omega
    · repeat' first
        | exact trivial | refine Weak.mk ?_ ?_ ?_ ?_ (Or.inl (Nat.le_of_ble_eq_true rfl)) | refine And.intro ?_ ?_ | with_reducible rfl | exact Nat.le_of_ble_eq_true rfl | refine AV.int_congr ?_ | refine AV.list_congr ?_ | (apply rfl)
      · rw [Int.toNat_natCast]; exact e
      · rw [wrap64 (by omega) (by omega)]; rfl
  · rename_i h1
    rw [length_rows] at h1
    rw [List.take_of_length_le (by omega)] at hp2 ⊢
    rw [left, if_neg (by omega)]; omega
theorem eqPairS.big (l m : List VPair) (h : tPairs.size l ≤ 1099511627775) : eqPairS.Ret [.list none (rows tPair l), .list none (rows tPair m)] (.val (.bool (decide (l = m)))) [] := by
  refine eqPairS.of rfl ?_
  rw [tPairs_sz] at h
  repeat' first
    | (conv => whnf
       first | refine Need.mk rfl ?_ | refine Fork.bne (fun _ => ?_) (fun _ => ?_) | refine LitO.own rfl ?_ | refine FinVal.keep ?_ | refine Final.mk ?_ rfl)
    | refine AV.bool_congr ?_
  · rename_i h
    rw [length_rows, length_rows] at h
    have h3 : ¬ l = m := fun e => h (by rw [e])
    simp [h3]
  rename_i h
  rw [length_rows, length_rows] at h
  have h : l.length = m.length := by omega
  skip
  refine ALoop.mk Nat (fun i => ⟨[(0, .list none (rows tPair l)), (1, .list none (rows tPair m)), (5, .val (.int .i64 i))], [], []⟩) (fun i => i ≤ l.length ∧ l.take i = m.take i) (fun i => l.length - i) ⟨0, ⟨Nat.zero_le _, rfl⟩, ?_⟩ (fun i hi => ?_)
  · repeat' first
      | exact trivial | refine Weak.mk ?_ ?_ ?_ ?_ (Or.inl (Nat.le_of_ble_eq_true rfl)) | refine And.intro ?_ ?_ | with_reducible rfl | exact Nat.le_of_ble_eq_true rfl | refine AV.int_congr ?_ | refine AV.list_congr ?_ | (apply rfl)
  repeat' first
    | (conv => whnf
       first | refine Need.mk rfl ?_ | refine Need.mk (Nat.le_of_ble_eq_true rfl) ?_ | refine Ix.mapF (fun _ => rfl) ?_ | refine Fork.dec (fun _ => ?_) (fun _ => ?_) | refine Fork.neg (fun _ => ?_) (fun _ => ?_) | refine Round.mk ?_ | refine LitO.own rfl ?_ | refine FinVal.keep ?_ | refine Final.mk ?_ rfl | refine AQCall.mkA _ _ (fun hg => eqPair.big _ _ ?_) rfl ?_)
    | refine AV.bool_congr ?_
  · rename_i h1
    rw [length_rows] at h1
    have := listSize_mem tPair (List.mem_of_getElem? (tPair_get (l := l) (i := i) (by omega)))
    rw [Int.toNat_natCast]; omega
  · rename_i h1 h2
    have h3 : ¬ l = m := fun e => of_decide_eq_false h2 (by rw [e])
    simp [h3]
  · rename_i h1 h2
    rw [length_rows] at h1
    rw [Int.toNat_natCast] at h2
    refine ⟨i + 1, ⟨by omega, ?_⟩, ?_, by omega⟩
    · rw [take_succ' default (by omega), take_succ' (l := m) default (by omega), hi.2, of_decide_eq_true h2]
    · repeat' first
        | exact trivial | refine Weak.mk ?_ ?_ ?_ ?_ (Or.inl (Nat.le_of_ble_eq_true rfl)) | refine And.intro ?_ ?_ | with_reducible rfl | exact Nat.le_of_ble_eq_true rfl | refine AV.int_congr ?_ | refine AV.list_congr ?_ | (apply rfl)
      rw [wrap64 (by omega) (by omega)]; rfl
  · rename_i h1
    rw [length_rows] at h1
    have h2 := hi.2
    rw [List.take_of_length_le (by omega), List.take_of_length_le (by omega)] at h2
    simp [h2]
theorem markPairS.tn (l : List VPair) (k : Nat) (hs : tPairs.size l ≤ 1099511627775) (hk : k + cn (.l 65 2 (l.map tPair.q)) ≤ 1099511627775) :
    markPairS.Turn (gb (.l 65 2 (l.map tPair.q)) 0) [gv (.l 65 2 (l.map tPair.q)) 0, .val (.int .i64 k)] (.val (.int .i64 ((k + cn (.l 65 2 (l.map tPair.q)) : Nat)))) (gb (mk (.l 65 2 (l.map tPair.q)) k) 0) := by
  refine markPairS.ofT rfl rfl (by rw [length_gb, nb_mk]) ?_
  obtain ⟨cs, hcs⟩ : ∃ cs, cs = (l.map tPair.q).flatten := ⟨_, rfl⟩
  have hlen : cs.length = l.length * 2 := by rw [hcs]; exact flat_len _ 2 tPair.hq l
  have hc0 : ∀ i, i < l.length → cs[i * 2 + 0]? = some (.s (l.getD i default).1) := fun i hi => by rw [hcs]; exact cell_at tPair.q 2 tPair.hq hi rfl
  have hc1 : ∀ i, i < l.length → cs[i * 2 + 1]? = some (.s (l.getD i default).2) := fun i hi => by rw [hcs]; exact cell_at tPair.q 2 tPair.hq hi rfl
  rw [gb_mk_l0, gb_l0, cn_l, gv, List.length_map, ← hcs]
  rw [cn_l, ← hcs] at hk
  clear hcs
  skip
  refine ALoop.mk Nat (fun i => ⟨[(0, .bsl 0 l.length), (1, .val (.int .i64 ((k + cnC (cs.take (i * 2)) : Nat)))), (5, .val (.int .i64 i))], .cells (.row 65 2) (gvL (st cs k (i * 2)) 1) :: gbL (st cs k (i * 2)) 1, []⟩) (fun i => i ≤ l.length) (fun i => l.length - i) ⟨0, Nat.zero_le _, ?_⟩ (fun i hi => ?_)
  · refine weak_st ⟨rfl, ?_, rfl, trivial⟩ ?_ ?_ rfl ?_
    · rw [Nat.zero_mul]; rfl
    · rw [Nat.zero_mul, st_zero]
    · rw [Nat.zero_mul, st_zero]
    · rw [Nat.zero_mul, st_zero, List.length_cons]; exact Nat.le_refl _
  have hle := cn_take_le cs (i * 2)
  rw [tPairs_sz] at hs
  rcases Nat.lt_or_ge i l.length with hlt | hge
  rotate_left
  · have hiw : i * 2 = cs.length := by omega
    repeat' first
      | (conv => whnf
         first | refine Need.mk rfl ?_ | refine Fork.decNo (by omega) ?_ | refine forceBx_of ?_ | refine LitO.own rfl ?_ | refine FinalT.mk ?_ ?_)
      | refine AV.int_congr ?_
    · rw [hiw, List.take_length]
    · rw [hiw, st_all cs k rfl]; exact take_all (by rw [List.length_cons, List.length_cons, length_gbL, length_gbL, nbL_mkC]; exact Nat.le_refl _)
  have hi1 : (i + 1) * 2 = i * 2 + 2 := by omega
  have hsz := tPair_le hlt
  have hz6 := tPair_size (l.getD i default)
  repeat' first
    | (conv => whnf
       first | refine Need.mk rfl ?_ | refine Fork.decYes (by omega) ?_ | refine forceBx_of ?_ | refine LitO.own rfl ?_)
  have l0 := cn_take_le cs (i * 2 + 1)
  have n0 : cnC (cs.take (i * 2 + 1)) = cnC (cs.take (i * 2)) + 1 := cn_succ (hc0 i hlt)
  have w0 : IntKind.i64.wrap (((k + cnC (cs.take (i * 2)) : Nat) : Int) + 1) = ((k + cnC (cs.take (i * 2 + 1)) : Nat) : Int) := by rw [wrap64 (by omega) (by omega)]; omega
  have b0 : gbL (st cs k (i * 2 + 1)) 1 = gbL (st cs k (i * 2)) 1 := gbL_st k 1 (hc0 i hlt) rfl
  have g0 : gvL (st cs k (i * 2 + 1)) 1 = (gvL (st cs k (i * 2)) 1).set (i * 2) (.str (markF (k + cnC (cs.take (i * 2))))) := gvL_st k 1 (hc0 i hlt)
  conv => whnf
  refine ACall.scal [.val (.int .i64 ((k + cnC (cs.take (i * 2)) : Nat)))] _ (markText.ret (k + cnC (cs.take (i * 2))) (by omega)) rfl (.cons (SeesB.of0 (by exact Sees0.val _)) .nil) ?_
  repeat' first
    | (conv => whnf
       first | refine Need.mk rfl ?_ | refine Need.fin ?_ | refine Need.mk ⟨rfl, by simp only [length_setAt, List.length_set, length_gvL, length_st, Int.toNat_natCast]; omega⟩ ?_ | refine LitO.own rfl ?_)
  have l1 := cn_take_le cs (i * 2 + 2)
  have n1 : cnC (cs.take (i * 2 + 2)) = cnC (cs.take (i * 2 + 1)) + 1 := cn_succ (hc1 i hlt)
  have w1 : IntKind.i64.wrap (IntKind.i64.wrap (((k + cnC (cs.take (i * 2)) : Nat) : Int) + 1) + 1) = ((k + cnC (cs.take (i * 2 + 2)) : Nat) : Int) := by rw [w0, wrap64 (by omega) (by omega)]; omega
  have b1 : gbL (st cs k (i * 2 + 2)) 1 = gbL (st cs k (i * 2 + 1)) 1 := gbL_st k 1 (hc1 i hlt) rfl
  have g1 : gvL (st cs k (i * 2 + 2)) 1 = (gvL (st cs k (i * 2 + 1)) 1).set (i * 2 + 1) (.str (markF (k + cnC (cs.take (i * 2 + 1))))) := gvL_st k 1 (hc1 i hlt)
  conv => whnf
  refine ACall.scal [.val (.int .i64 ((k + cnC (cs.take (i * 2 + 1)) : Nat)))] _ (markText.ret (k + cnC (cs.take (i * 2 + 1))) (by omega)) rfl (.cons (SeesB.of0 (by rw [w0]; exact Sees0.val _)) .nil) ?_
  repeat' first
    | (conv => whnf
       first | refine Need.mk rfl ?_ | refine Need.fin ?_ | refine Need.mk ⟨rfl, by simp only [length_setAt, List.length_set, length_gvL, length_st, Int.toNat_natCast]; omega⟩ ?_ | refine Round.mk ?_ | refine LitO.own rfl ?_)
  refine ⟨i + 1, by omega, weak_st ⟨rfl, AV.int_congr ?_, AV.int_congr ?_, trivial⟩ (congrArg (ABox.cells (.row 65 2)) ?_) ?_ rfl ?_, by omega⟩
  · rw [hi1]; exact w1
  · rw [wrap64 (by omega) (by omega)]; rfl
  · rw [hi1, g1, g0]
    try rfl
  · rw [hi1, b1, b0]
  · simp only [hi1, List.length_cons, length_gbL, nbL_st, Nat.le_refl]
end Go.Proofs.Ytfnejdkkhpjhmaa
namespace Go.Proofs.Ytfnejdkkhpjhmaa
open Abs
abbrev VToken := List Fct × List VPair
instance : DecidableEq VToken := instDecidableEqProd
def tToken : Ty VToken := Ty.pair tFcts tPairs
theorem tToken_size (a : VToken) : tToken.size a = tFcts.size a.1 + tPairs.size a.2 := rfl
theorem tToken_cn : CnB tToken 4 := CnB.pair (CnB.list tFct_cn _) (CnB.plain tPair_cn _ _ _)
def tTokens : Ty (List VToken) := Ty.list 154 tToken
theorem tTokens_sz (l : List VToken) : tTokens.size l = l.length + listSize tToken l := rfl
theorem tToken_get {l : List VToken} {i : Nat} (hi : i < l.length) : l[i]? = some (l.getD i default) := by simp [List.getD, hi]
theorem tToken_le {l : List VToken} {i : Nat} (hi : i < l.length) : tToken.size (l.getD i default) ≤ listSize tToken l := listSize_mem tToken (List.mem_of_getElem? (tToken_get hi))
theorem Abs.ACall.mk_Token {C : Con} {lend : Bool} {f : Nat} {vs : List AV} {b : List ABox} {fr : Fr} {k : AV → List ABox → Fr → Prop} (ys : List AV) (a : VToken) (h : C.ret f ys (.agg (tToken.tk a 0)) (tToken.fr a)) (hv : SeesL Sees0 vs ys)
    (hk : k (.agg (tToken.tk a fr.length)) b (fr ++ tToken.fr a)) : ACall C lend f vs b fr k := ACall.mkA tToken ys a h hv hk
theorem Abs.ACall.mk_TokenS {C : Con} {lend : Bool} {f : Nat} {vs : List AV} {b : List ABox} {fr : Fr} {k : AV → List ABox → Fr → Prop} (ys : List AV) (l : List VToken) (h : C.ret f ys (.list (some (0 + (frs tToken l).length)) (tks tToken l 0)) (tTokens.fr l)) (hv : SeesL Sees0 vs ys)
    (hk : k (.list (some (fr.length + (frs tToken l).length)) (tks tToken l fr.length)) b (fr ++ tTokens.fr l)) : ACall C lend f vs b fr k :=
  ACall.mkV tTokens ys l (fun n => .list (some (n + (frs tToken l).length)) (tks tToken l n)) (fun _ => rfl) h hv hk
theorem toToken.ret (a : VToken) (h : tToken.size a ≤ 1048576) : toToken.Ret [.agg (oldL (tToken.q a))] (.agg (tToken.tk a 0)) (tToken.fr a) := by
  refine toToken.of rfl ?_
  rw [tToken_size] at h
  repeat' first
    | contradiction | exact trivial
    | (conv => whnf
       first | refine Need.mk (fun h => h) ?_ | refine Need.mk rfl ?_ | refine Need.mk ⟨rfl, Nat.le_of_ble_eq_true rfl⟩ ?_ | refine Need.mk (Nat.le_of_ble_eq_true rfl) ?_ | refine Need.fin ?_ | refine Need.mk ?_ ?_ | refine Ix.strsF rfl ?_ | refine Ix.strs rfl ?_ ?_ | refine Cut.strs rfl ?_ ?_ | refine Ix.mapF (fun _ => rfl) ?_ | refine Ix.map (fun _ => rfl) ?_ ?_ | refine Cut.map (fun _ => rfl) ?_ ?_ | refine Fork.yes (by assumption) ?_ | refine Fork.no (by assumption) ?_ | refine Fork.decYes (by omega) ?_ | refine Fork.decNo (by omega) ?_ | refine Fork.dec (fun _ => ?_) (fun _ => ?_) | refine Fork.bne (fun _ => ?_) (fun _ => ?_) | refine Fork.beq (fun _ => ?_) (fun _ => ?_) | refine Fork.seq (fun _ => ?_) (fun _ => ?_) | refine Fork.sne (fun _ => ?_) (fun _ => ?_) | refine Fork.neg (fun _ => ?_) (fun _ => ?_) | refine Fork.mk (fun _ => ?_) (fun _ => ?_) | refine HAlt.mk ?_ ?_ | apply HJoin.mk3 | exact HEnd.mk rfl rfl rfl | refine HEnd.mk ?_ ?_ ?_ | refine Round.mk ?_ | refine NilQ.mk (fun b hb => ?_) | refine forceK_of ?_ | refine forceBx_of ?_ | refine unG_old ?_ | refine unG_gv ?_ | refine Lit.read rfl ?_ | refine LitO.own rfl ?_ | refine FinVal.keep ?_ | refine FinAgg.keep ?_ | refine Final.mk rfl rfl | refine Final.mk ?_ rfl | refine Final.mk ?_ ?_ | refine FinalT.mk ?_ ?_ | refine FinalI.mk ?_ | refine FinalC.allA ?_ | refine ACall.mk_FactS _ _ (toFactS.ret _ ?_) (by repeat' first | exact SeesL.nil | refine SeesL.cons ?_ ?_ | exact SeesB.of0 (Sees0.val _) | exact SeesB.of0 (Sees0.str _) | exact SeesB.of0 (Sees0.olds _ _) | exact SeesB.of0 (Sees0.old _) | exact SeesB.of0 (Sees0.oldagg _) | exact SeesB.of0 Sees0.nil | exact Sees0.val _ | exact Sees0.str _ | exact Sees0.olds _ _ | exact Sees0.old _ | exact Sees0.oldagg _ | exact Sees0.nil | exact SeesB.of0 (Sees0.any _) | assumption | exact sees_gv _ _ _ (by assumption) (by first | assumption | exact BoxIn.last _ _ | exact BoxIn.more (BoxIn.last _ _) _) | refine SeesB.agg ?_ | refine Sees0.agg ?_ | exact SeesB.of0 (Sees0.clo SeesL.nil SeesL.nil) | exact Sees0.clo SeesL.nil SeesL.nil | exact SeesB.of0 (Sees0.list rfl) | exact Sees0.list rfl) ?_ | refine ACall.mk_PairS _ _ (toPairS.ret _ ?_) (by repeat' first | exact SeesL.nil | refine SeesL.cons ?_ ?_ | exact SeesB.of0 (Sees0.val _) | exact SeesB.of0 (Sees0.str _) | exact SeesB.of0 (Sees0.olds _ _) | exact SeesB.of0 (Sees0.old _) | exact SeesB.of0 (Sees0.oldagg _) | exact SeesB.of0 Sees0.nil | exact Sees0.val _ | exact Sees0.str _ | exact Sees0.olds _ _ | exact Sees0.old _ | exact Sees0.oldagg _ | exact Sees0.nil | exact SeesB.of0 (Sees0.any _) | assumption | exact sees_gv _ _ _ (by assumption) (by first | assumption | exact BoxIn.last _ _ | exact BoxIn.more (BoxIn.last _ _) _) | refine SeesB.agg ?_ | refine Sees0.agg ?_ | exact SeesB.of0 (Sees0.clo SeesL.nil SeesL.nil) | exact Sees0.clo SeesL.nil SeesL.nil | exact SeesB.of0 (Sees0.list rfl) | exact Sees0.list rfl) ?_)
    | refine AV.bool_congr ?_ | refine AV.int_congr ?_ | refine AV.str_congr ?_ | refine AV.list_congr ?_ | with_reducible rfl | refine fr1 ?_ | refine fr2 ?_ ?_
  all_goals first
    | omega
    | (refine congrArg AV.agg ?_
       repeat' first
         | refine cons_congr ?_ ?_
         | refine tok_congr ?_ ?_
         | refine congrArg (tks _ _) ?_
         | rfl
       all_goals (simp [Ty.pair, Ty.str, Ty.int, Ty.bool, Nat.add_assoc, Ty.plain, tPairs]; done))
    | (simp [tToken, Ty.pair, Ty.str, Ty.int, Ty.bool, List.append_assoc, Nat.add_assoc, Ty.plain, tPairs]; done)
theorem szToken.ret (f : VToken) (a : Int) (h0 : 0 ≤ a) (ha : a ≤ 1048576) (hb : tToken.bd f) :
    szToken.Ret [.agg (oldL (tToken.q f)), .val (.int .i64 a)] (.val (.int .i64 (left a (tToken.size f)))) [] := by
  refine szToken.of rfl ?_
  have hz := tToken_size f
  obtain ⟨hb0, hb1⟩ := hb
  by_cases c1 : a < (tFcts.size f.1 : Int)
  · have e0 : left a (tFcts.size f.1) = -1 := by rw [left, if_pos (by omega)]
    repeat' first
      | contradiction | exact trivial
      | (conv => whnf
         first | refine Need.mk (fun h => h) ?_ | refine Need.mk rfl ?_ | refine Need.mk ⟨rfl, Nat.le_of_ble_eq_true rfl⟩ ?_ | refine Need.mk (Nat.le_of_ble_eq_true rfl) ?_ | refine Need.fin ?_ | refine Need.mk ?_ ?_ | refine Ix.strsF rfl ?_ | refine Ix.strs rfl ?_ ?_ | refine Cut.strs rfl ?_ ?_ | refine Ix.mapF (fun _ => rfl) ?_ | refine Ix.map (fun _ => rfl) ?_ ?_ | refine Cut.map (fun _ => rfl) ?_ ?_ | refine Fork.yes (by assumption) ?_ | refine Fork.no (by assumption) ?_ | refine Fork.decYes (by omega) ?_ | refine Fork.decNo (by omega) ?_ | refine Fork.dec (fun _ => ?_) (fun _ => ?_) | refine Fork.bne (fun _ => ?_) (fun _ => ?_) | refine Fork.beq (fun _ => ?_) (fun _ => ?_) | refine Fork.seq (fun _ => ?_) (fun _ => ?_) | refine Fork.sne (fun _ => ?_) (fun _ => ?_) | refine Fork.neg (fun _ => ?_) (fun _ => ?_) | refine Fork.mk (fun _ => ?_) (fun _ => ?_) | refine HAlt.mk ?_ ?_ | apply HJoin.mk3 | exact HEnd.mk rfl rfl rfl | refine HEnd.mk ?_ ?_ ?_ | refine Round.mk ?_ | refine NilQ.mk (fun b hb => ?_) | refine forceK_of ?_ | refine forceBx_of ?_ | refine unG_old ?_ | refine unG_gv ?_ | refine Lit.read rfl ?_ | refine LitO.own rfl ?_ | refine FinVal.keep ?_ | refine FinAgg.keep ?_ | refine Final.mk rfl rfl | refine Final.mk ?_ rfl | refine Final.mk ?_ ?_ | refine FinalT.mk ?_ ?_ | refine FinalI.mk ?_ | refine FinalC.allA ?_ | refine ACall.scalA _ _ (szFactS.ret _ _ ?_ ?_ ?_) rfl ?_ | refine AQCall.mkA _ _ (fun hg => szFactS.ret _ _ ?_ ?_ ?_) rfl ?_ | refine AGCall.mkA _ _ (fun hg => szFactS.ret _ _ ?_ ?_ ?_) rfl ?_ | refine ACall.scalA _ _ (szPairS.ret _ _ ?_ ?_ ?_) rfl ?_ | refine AQCall.mkA _ _ (fun hg => szPairS.ret _ _ ?_ ?_ ?_) rfl ?_ | refine AGCall.mkA _ _ (fun hg => szPairS.ret _ _ ?_ ?_ ?_) rfl ?_)
      | refine AV.bool_congr ?_ | refine AV.int_congr ?_ | refine AV.str_congr ?_ | refine AV.list_congr ?_ | with_reducible rfl | refine fr1 ?_ | refine fr2 ?_ ?_
    all_goals first
      | assumption
      | omega
      | exact left_eq (by omega)
  by_cases c2 : a < (tFcts.size f.1 : Int) + (tPairs.size f.2 : Int)
  · have e0 : left a (tFcts.size f.1) = a - (tFcts.size f.1 : Int) := by rw [left, if_neg (by omega)]
    have e1 : left (left a (tFcts.size f.1)) (tPairs.size f.2) = -1 := by rw [e0, left, if_pos (by omega)]
    repeat' first
      | contradiction | exact trivial
      | (conv => whnf
         first | refine Need.mk (fun h => h) ?_ | refine Need.mk rfl ?_ | refine Need.mk ⟨rfl, Nat.le_of_ble_eq_true rfl⟩ ?_ | refine Need.mk (Nat.le_of_ble_eq_true rfl) ?_ | refine Need.fin ?_ | refine Need.mk ?_ ?_ | refine Ix.strsF rfl ?_ | refine Ix.strs rfl ?_ ?_ | refine Cut.strs rfl ?_ ?_ | refine Ix.mapF (fun _ => rfl) ?_ | refine Ix.map (fun _ => rfl) ?_ ?_ | refine Cut.map (fun _ => rfl) ?_ ?_ | refine Fork.yes (by assumption) ?_ | refine Fork.no (by assumption) ?_ | refine Fork.decYes (by omega) ?_ | refine Fork.decNo (by omega) ?_ | refine Fork.dec (fun _ => ?_) (fun _ => ?_) | refine Fork.bne (fun _ => ?_) (fun _ => ?_) | refine Fork.beq (fun _ => ?_) (fun _ => ?_) | refine Fork.seq (fun _ => ?_) (fun _ => ?_) | refine Fork.sne (fun _ => ?_) (fun _ => ?_) | refine Fork.neg (fun _ => ?_) (fun _ => ?_) | refine Fork.mk (fun _ => ?_) (fun _ => ?_) | refine HAlt.mk ?_ ?_ | apply HJoin.mk3 | exact HEnd.mk rfl rfl rfl | refine HEnd.mk ?_ ?_ ?_ | refine Round.mk ?_ | refine NilQ.mk (fun b hb => ?_) | refine forceK_of ?_ | refine forceBx_of ?_ | refine unG_old ?_ | refine unG_gv ?_ | refine Lit.read rfl ?_ | refine LitO.own rfl ?_ | refine FinVal.keep ?_ | refine FinAgg.keep ?_ | refine Final.mk rfl rfl | refine Final.mk ?_ rfl | refine Final.mk ?_ ?_ | refine FinalT.mk ?_ ?_ | refine FinalI.mk ?_ | refine FinalC.allA ?_ | refine ACall.scalA _ _ (szFactS.ret _ _ ?_ ?_ ?_) rfl ?_ | refine AQCall.mkA _ _ (fun hg => szFactS.ret _ _ ?_ ?_ ?_) rfl ?_ | refine AGCall.mkA _ _ (fun hg => szFactS.ret _ _ ?_ ?_ ?_) rfl ?_ | refine ACall.scalA _ _ (szPairS.ret _ _ ?_ ?_ ?_) rfl ?_ | refine AQCall.mkA _ _ (fun hg => szPairS.ret _ _ ?_ ?_ ?_) rfl ?_ | refine AGCall.mkA _ _ (fun hg => szPairS.ret _ _ ?_ ?_ ?_) rfl ?_)
      | refine AV.bool_congr ?_ | refine AV.int_congr ?_ | refine AV.str_congr ?_ | refine AV.list_congr ?_ | with_reducible rfl | refine fr1 ?_ | refine fr2 ?_ ?_
    all_goals first
      | assumption
      | omega
      | exact left_eq (by omega)
  have e0 : left a (tFcts.size f.1) = a - (tFcts.size f.1 : Int) := by rw [left, if_neg (by omega)]
  have e1 : left (left a (tFcts.size f.1)) (tPairs.size f.2) = a - (tFcts.size f.1 : Int) - (tPairs.size f.2 : Int) := by rw [e0, left, if_neg (by omega)]
  repeat' first
    | contradiction | exact trivial
    | (conv => whnf
       first | refine Need.mk (fun h => h) ?_ | refine Need.mk rfl ?_ | refine Need.mk ⟨rfl, Nat.le_of_ble_eq_true rfl⟩ ?_ | refine Need.mk (Nat.le_of_ble_eq_true rfl) ?_ | refine Need.fin ?_ | refine Need.mk ?_ ?_ | refine Ix.strsF rfl ?_ | refine Ix.strs rfl ?_ ?_ | refine Cut.strs rfl ?_ ?_ | refine Ix.mapF (fun _ => rfl) ?_ | refine Ix.map (fun _ => rfl) ?_ ?_ | refine Cut.map (fun _ => rfl) ?_ ?_ | refine Fork.yes (by assumption) ?_ | refine Fork.no (by assumption) ?_ | refine Fork.decYes (by omega) ?_ | refine Fork.decNo (by omega) ?_ | refine Fork.dec (fun _ => ?_) (fun _ => ?_) | refine Fork.bne (fun _ => ?_) (fun _ => ?_) | refine Fork.beq (fun _ => ?_) (fun _ => ?_) | refine Fork.seq (fun _ => ?_) (fun _ => ?_) | refine Fork.sne (fun _ => ?_) (fun _ => ?_) | refine Fork.neg (fun _ => ?_) (fun _ => ?_) | refine Fork.mk (fun _ => ?_) (fun _ => ?_) | refine HAlt.mk ?_ ?_ | apply HJoin.mk3 | exact HEnd.mk rfl rfl rfl | refine HEnd.mk ?_ ?_ ?_ | refine Round.mk ?_ | refine NilQ.mk (fun b hb => ?_) | refine forceK_of ?_ | refine forceBx_of ?_ | refine unG_old ?_ | refine unG_gv ?_ | refine Lit.read rfl ?_ | refine LitO.own rfl ?_ | refine FinVal.keep ?_ | refine FinAgg.keep ?_ | refine Final.mk rfl rfl | refine Final.mk ?_ rfl | refine Final.mk ?_ ?_ | refine FinalT.mk ?_ ?_ | refine FinalI.mk ?_ | refine FinalC.allA ?_ | refine ACall.scalA _ _ (szFactS.ret _ _ ?_ ?_ ?_) rfl ?_ | refine AQCall.mkA _ _ (fun hg => szFactS.ret _ _ ?_ ?_ ?_) rfl ?_ | refine AGCall.mkA _ _ (fun hg => szFactS.ret _ _ ?_ ?_ ?_) rfl ?_ | refine ACall.scalA _ _ (szPairS.ret _ _ ?_ ?_ ?_) rfl ?_ | refine AQCall.mkA _ _ (fun hg => szPairS.ret _ _ ?_ ?_ ?_) rfl ?_ | refine AGCall.mkA _ _ (fun hg => szPairS.ret _ _ ?_ ?_ ?_) rfl ?_)
    | refine AV.bool_congr ?_ | refine AV.int_congr ?_ | refine AV.str_congr ?_ | refine AV.list_congr ?_ | with_reducible rfl | refine fr1 ?_ | refine fr2 ?_ ?_
  all_goals first
    | assumption
    | omega
    | exact left_eq (by omega)
theorem eqToken.big (f g : VToken) (h : tToken.size f ≤ 1099511627775) : eqToken.Ret [.agg (oldL (tToken.q f)), .agg (oldL (tToken.q g))] (.val (.bool (decide (f = g)))) [] := by
  refine eqToken.of rfl ?_
  have hz := tToken_size f
  repeat' first
    | (conv => whnf
       first | refine Fork.neg (fun _ => ?_) (fun _ => ?_) | refine FinVal.keep ?_ | refine Final.mk ?_ rfl | refine ACall.scalA _ _ (eqFactS.big _ _ ?_) rfl ?_ | refine ACall.scalA _ _ (eqPairS.big _ _ ?_) rfl ?_)
    | refine AV.bool_congr ?_
  all_goals first
    | omega
    | (simp only [tStrs_size, tInts_size] at *; omega)
    | (obtain ⟨x0, x1⟩ := f; obtain ⟨y0, y1⟩ := g; simp_all)
theorem toTokenS.ret (l : List VToken) (h : tTokens.size l ≤ 1048576) : toTokenS.Ret [.list none (rows tToken l)] (.list (some (0 + (frs tToken l).length)) (tks tToken l 0)) (tTokens.fr l) := by
  refine toTokenS.of rfl ?_
  rw [tTokens_sz] at h
  repeat' first
    | contradiction | exact trivial
    | (conv => whnf
       first | refine Need.mk (fun h => h) ?_ | refine Need.mk rfl ?_ | refine Need.mk ⟨rfl, Nat.le_of_ble_eq_true rfl⟩ ?_ | refine Need.mk (Nat.le_of_ble_eq_true rfl) ?_ | refine Need.fin ?_ | refine Need.mk ?_ ?_ | refine Ix.strsF rfl ?_ | refine Ix.strs rfl ?_ ?_ | refine Cut.strs rfl ?_ ?_ | refine Ix.mapF (fun _ => rfl) ?_ | refine Ix.map (fun _ => rfl) ?_ ?_ | refine Cut.map (fun _ => rfl) ?_ ?_ | refine Fork.yes (by assumption) ?_ | refine Fork.no (by assumption) ?_ | refine Fork.decYes (by omega) ?_ | refine Fork.decNo (by omega) ?_ | refine Fork.dec (fun _ => ?_) (fun _ => ?_) | refine Fork.bne (fun _ => ?_) (fun _ => ?_) | refine Fork.beq (fun _ => ?_) (fun _ => ?_) | refine Fork.seq (fun _ => ?_) (fun _ => ?_) | refine Fork.sne (fun _ => ?_) (fun _ => ?_) | refine Fork.neg (fun _ => ?_) (fun _ => ?_) | refine Fork.mk (fun _ => ?_) (fun _ => ?_) | refine HAlt.mk ?_ ?_ | apply HJoin.mk3 | exact HEnd.mk rfl rfl rfl | refine HEnd.mk ?_ ?_ ?_ | refine Round.mk ?_ | refine NilQ.mk (fun b hb => ?_) | refine forceK_of ?_ | refine forceBx_of ?_ | refine unG_old ?_ | refine unG_gv ?_ | refine Lit.read rfl ?_ | refine LitO.own rfl ?_ | refine FinVal.keep ?_ | refine FinAgg.keep ?_ | refine Final.mk rfl rfl | refine Final.mk ?_ rfl | refine Final.mk ?_ ?_ | refine FinalT.mk ?_ ?_ | refine FinalI.mk ?_ | refine FinalC.allA ?_)
    | refine AV.bool_congr ?_ | refine AV.int_congr ?_ | refine AV.str_congr ?_ | refine AV.list_congr ?_ | with_reducible rfl | refine fr1 ?_ | refine fr2 ?_ ?_
  refine ALoop.mk Nat (fun i => ⟨[(0, .list none (rows tToken l)), (3, .bsl 0 l.length), (4, .val (.int .i64 i))], [.cells (.row 154 2) (part [.val (.slice none 0 0), .val (.slice none 0 0)] (tks tToken l 0) i)], frs tToken (l.take i)⟩) (fun i => i ≤ l.length) (fun i => l.length - i) ⟨0, Nat.zero_le _, ?_⟩ (fun i hi => ?_)
  · repeat' first
      | exact trivial | refine Weak.mk ?_ ?_ ?_ ?_ (Or.inl (Nat.le_of_ble_eq_true rfl)) | refine Weak.mk ?_ ?_ ?_ ?_ (Or.inr ⟨(by repeat' first | exact trivial | exact Nat.le_of_ble_eq_true rfl | refine And.intro ?_ ?_), (by repeat' first | exact trivial | exact Nat.le_of_ble_eq_true rfl | refine And.intro ?_ ?_)⟩) | refine Weak.mk ?_ ?_ ?_ ?_ ?_ | refine And.intro ?_ ?_ | with_reducible rfl | exact Nat.le_of_ble_eq_true rfl | refine fr1 ?_ | refine fr2 ?_ ?_ | refine AV.int_congr ?_ | refine AV.bool_congr ?_ | refine AV.str_congr ?_ | refine AV.list_congr ?_ | refine AV.bsl_congr ?_ ?_ | (apply rfl)
    · simp
    · simp only [List.nil_append, List.length_cons, List.length_nil, List.take_succ_cons, List.take_zero]
      rw [part_made (xs := tks tToken l 0) (sz := 2) rfl (by decide) (by simp [length_tks])]; rfl
  repeat' first
    | contradiction | exact trivial
    | (conv => whnf
       first | refine Need.mk (fun h => h) ?_ | refine Need.mk rfl ?_ | refine Need.mk ⟨rfl, Nat.le_of_ble_eq_true rfl⟩ ?_ | refine Need.mk (Nat.le_of_ble_eq_true rfl) ?_ | refine Need.fin ?_ | refine Need.mk ?_ ?_ | refine Ix.strsF rfl ?_ | refine Ix.strs rfl ?_ ?_ | refine Cut.strs rfl ?_ ?_ | refine Ix.mapF (fun _ => rfl) ?_ | refine Ix.map (fun _ => rfl) ?_ ?_ | refine Cut.map (fun _ => rfl) ?_ ?_ | refine Fork.yes (by assumption) ?_ | refine Fork.no (by assumption) ?_ | refine Fork.decYes (by omega) ?_ | refine Fork.decNo (by omega) ?_ | refine Fork.dec (fun _ => ?_) (fun _ => ?_) | refine Fork.bne (fun _ => ?_) (fun _ => ?_) | refine Fork.beq (fun _ => ?_) (fun _ => ?_) | refine Fork.seq (fun _ => ?_) (fun _ => ?_) | refine Fork.sne (fun _ => ?_) (fun _ => ?_) | refine Fork.neg (fun _ => ?_) (fun _ => ?_) | refine Fork.mk (fun _ => ?_) (fun _ => ?_) | refine HAlt.mk ?_ ?_ | apply HJoin.mk3 | exact HEnd.mk rfl rfl rfl | refine HEnd.mk ?_ ?_ ?_ | refine Round.mk ?_ | refine NilQ.mk (fun b hb => ?_) | refine forceK_of ?_ | refine forceBx_of ?_ | refine unG_old ?_ | refine unG_gv ?_ | refine Lit.read rfl ?_ | refine LitO.own rfl ?_ | refine FinVal.keep ?_ | refine FinAgg.keep ?_ | refine Final.mk rfl rfl | refine Final.mk ?_ rfl | refine Final.mk ?_ ?_ | refine FinalT.mk ?_ ?_ | refine FinalI.mk ?_ | refine FinalC.allA ?_ | refine ACall.mk_Token _ _ (toToken.ret _ ?_) (by repeat' first | exact SeesL.nil | refine SeesL.cons ?_ ?_ | exact SeesB.of0 (Sees0.val _) | exact SeesB.of0 (Sees0.str _) | exact SeesB.of0 (Sees0.olds _ _) | exact SeesB.of0 (Sees0.old _) | exact SeesB.of0 (Sees0.oldagg _) | exact SeesB.of0 Sees0.nil | exact Sees0.val _ | exact Sees0.str _ | exact Sees0.olds _ _ | exact Sees0.old _ | exact Sees0.oldagg _ | exact Sees0.nil | exact SeesB.of0 (Sees0.any _) | assumption | exact sees_gv _ _ _ (by assumption) (by first | assumption | exact BoxIn.last _ _ | exact BoxIn.more (BoxIn.last _ _) _) | refine SeesB.agg ?_ | refine Sees0.agg ?_ | exact SeesB.of0 (Sees0.clo SeesL.nil SeesL.nil) | exact Sees0.clo SeesL.nil SeesL.nil | exact SeesB.of0 (Sees0.list rfl) | exact Sees0.list rfl) ?_)
    | refine AV.bool_congr ?_ | refine AV.int_congr ?_ | refine AV.str_congr ?_ | refine AV.list_congr ?_ | with_reducible rfl | refine fr1 ?_ | refine fr2 ?_ ?_
  · rename_i h1
    rw [length_rows] at h1
    have := listSize_mem tToken (List.mem_of_getElem? (tToken_get (l := l) (i := i) (by omega)))
    rw [Int.toNat_natCast]; omega
  · rename_i h1
    rw [length_rows] at h1
    rw [part_len (sz := 2) rfl (tks_sz tToken l 0) (by rw [length_tks]; exact hi), Int.toNat_natCast, length_tks]
    exact ⟨rfl, by omega⟩
  · rename_i h1
    rw [length_rows] at h1
    refine ⟨i + 1, by omega, ?_, by omega⟩
    repeat' first
      | exact trivial | refine Weak.mk ?_ ?_ ?_ ?_ (Or.inl (Nat.le_of_ble_eq_true rfl)) | refine Weak.mk ?_ ?_ ?_ ?_ (Or.inr ⟨(by repeat' first | exact trivial | exact Nat.le_of_ble_eq_true rfl | refine And.intro ?_ ?_), (by repeat' first | exact trivial | exact Nat.le_of_ble_eq_true rfl | refine And.intro ?_ ?_)⟩) | refine Weak.mk ?_ ?_ ?_ ?_ ?_ | refine And.intro ?_ ?_ | with_reducible rfl | exact Nat.le_of_ble_eq_true rfl | refine fr1 ?_ | refine fr2 ?_ ?_ | refine AV.int_congr ?_ | refine AV.bool_congr ?_ | refine AV.str_congr ?_ | refine AV.list_congr ?_ | refine AV.bsl_congr ?_ ?_ | (apply rfl)
    · rw [wrap64 (by omega) (by omega)]; rfl
    · have := part_set (z := [.val (.slice none 0 0), .val (.slice none 0 0)]) (sz := 2) rfl (tks_sz tToken l 0) (tks_get tToken 0 (tToken_get (l := l) (i := i) (by omega)))
      rw [Nat.zero_add] at this
      simp only [List.set_cons_zero, List.take_succ_cons, List.take_zero, List.length_cons, List.length_nil, Int.toNat_natCast, this]
    · show frs tToken (l.take i) ++ tToken.fr (l.getD (i : Int).toNat default) = frs tToken (l.take (i + 1))
      rw [Int.toNat_natCast, take_succ' default (by omega), frs_append]; simp [frs]
  · rename_i h1
    rw [length_rows] at h1
    conv => whnf
    have : i = l.length := by omega
    subst this
    have hall := part_all [.val (.slice none 0 0), .val (.slice none 0 0)] (tks tToken l 0)
    rw [length_tks] at hall
    refine FreezeD.flat (Freeze.mk (tks tToken l 0) _ 154 2 rfl hall (length_tks _ _ _) (tks_sz tToken l 0) (fun c hc => ?_) ?_)
    · rw [hall] at hc; exact tks_nr tToken l 0 c hc
    · refine Final.mk ?_ ?_
      · rw [List.take_length, Nat.zero_add]
      · rw [List.take_length]; rfl
theorem szTokenS.ret (l : List VToken) (a : Int) (h0 : 0 ≤ a) (ha : a ≤ 1048576) (hb : tTokens.bd l) :
    szTokenS.Ret [.list none (rows tToken l), .val (.int .i64 a)] (.val (.int .i64 (left a (tTokens.size l)))) [] := by
  refine szTokenS.of rfl ?_
  obtain ⟨hl, hb⟩ := hb
  have hw : IntKind.i64.wrap (a - ((rows tToken l).length : Int)) = a - l.length := by rw [length_rows]; exact wrap64 (by omega) (by omega)
  have hz := tTokens_sz l
  repeat' first
    | contradiction | exact trivial
    | (conv => whnf
       first | refine Need.mk (fun h => h) ?_ | refine Need.mk rfl ?_ | refine Need.mk ⟨rfl, Nat.le_of_ble_eq_true rfl⟩ ?_ | refine Need.mk (Nat.le_of_ble_eq_true rfl) ?_ | refine Need.fin ?_ | refine Need.mk ?_ ?_ | refine Ix.strsF rfl ?_ | refine Ix.strs rfl ?_ ?_ | refine Cut.strs rfl ?_ ?_ | refine Ix.mapF (fun _ => rfl) ?_ | refine Ix.map (fun _ => rfl) ?_ ?_ | refine Cut.map (fun _ => rfl) ?_ ?_ | refine Fork.yes (by assumption) ?_ | refine Fork.no (by assumption) ?_ | refine Fork.decYes (by omega) ?_ | refine Fork.decNo (by omega) ?_ | refine Fork.dec (fun _ => ?_) (fun _ => ?_) | refine Fork.bne (fun _ => ?_) (fun _ => ?_) | refine Fork.beq (fun _ => ?_) (fun _ => ?_) | refine Fork.seq (fun _ => ?_) (fun _ => ?_) | refine Fork.sne (fun _ => ?_) (fun _ => ?_) | refine Fork.neg (fun _ => ?_) (fun _ => ?_) | refine Fork.mk (fun _ => ?_) (fun _ => ?_) | refine HAlt.mk ?_ ?_ | apply HJoin.mk3 | exact HEnd.mk rfl rfl rfl | refine HEnd.mk ?_ ?_ ?_ | refine Round.mk ?_ | refine NilQ.mk (fun b hb => ?_) | refine forceK_of ?_ | refine forceBx_of ?_ | refine unG_old ?_ | refine unG_gv ?_ | refine Lit.read rfl ?_ | refine LitO.own rfl ?_ | refine FinVal.keep ?_ | refine FinAgg.keep ?_ | refine Final.mk rfl rfl | refine Final.mk ?_ rfl | refine Final.mk ?_ ?_ | refine FinalT.mk ?_ ?_ | refine FinalI.mk ?_ | refine FinalC.allA ?_)
    | refine AV.bool_congr ?_ | refine AV.int_congr ?_ | refine AV.str_congr ?_ | refine AV.list_congr ?_ | with_reducible rfl | refine fr1 ?_ | refine fr2 ?_ ?_
  · rename_i h
    rw [hw] at h
    rw [left, if_pos (by omega)]
  rename_i h
  rw [hw] at h
  repeat' first
    | contradiction | exact trivial
    | (conv => whnf
       first | refine Need.mk (fun h => h) ?_ | refine Need.mk rfl ?_ | refine Need.mk ⟨rfl, Nat.le_of_ble_eq_true rfl⟩ ?_ | refine Need.mk (Nat.le_of_ble_eq_true rfl) ?_ | refine Need.fin ?_ | refine Need.mk ?_ ?_ | refine Ix.strsF rfl ?_ | refine Ix.strs rfl ?_ ?_ | refine Cut.strs rfl ?_ ?_ | refine Ix.mapF (fun _ => rfl) ?_ | refine Ix.map (fun _ => rfl) ?_ ?_ | refine Cut.map (fun _ => rfl) ?_ ?_ | refine Fork.yes (by assumption) ?_ | refine Fork.no (by assumption) ?_ | refine Fork.decYes (by omega) ?_ | refine Fork.decNo (by omega) ?_ | refine Fork.dec (fun _ => ?_) (fun _ => ?_) | refine Fork.bne (fun _ => ?_) (fun _ => ?_) | refine Fork.beq (fun _ => ?_) (fun _ => ?_) | refine Fork.seq (fun _ => ?_) (fun _ => ?_) | refine Fork.sne (fun _ => ?_) (fun _ => ?_) | refine Fork.neg (fun _ => ?_) (fun _ => ?_) | refine Fork.mk (fun _ => ?_) (fun _ => ?_) | refine HAlt.mk ?_ ?_ | apply HJoin.mk3 | exact HEnd.mk rfl rfl rfl | refine HEnd.mk ?_ ?_ ?_ | refine Round.mk ?_ | refine NilQ.mk (fun b hb => ?_) | refine forceK_of ?_ | refine forceBx_of ?_ | refine unG_old ?_ | refine unG_gv ?_ | refine Lit.read rfl ?_ | refine LitO.own rfl ?_ | refine FinVal.keep ?_ | refine FinAgg.keep ?_ | refine Final.mk rfl rfl | refine Final.mk ?_ rfl | refine Final.mk ?_ ?_ | refine FinalT.mk ?_ ?_ | refine FinalI.mk ?_ | refine FinalC.allA ?_)
    | refine AV.bool_congr ?_ | refine AV.int_congr ?_ | refine AV.str_congr ?_ | refine AV.list_congr ?_ | with_reducible rfl | refine fr1 ?_ | refine fr2 ?_ ?_
  refine ALoop.mk Nat (fun i => ⟨[(0, .list none (rows tToken l)), (1, .val (.int .i64 (a - l.length - listSize tToken (l.take i)))), (5, .val (.int .i64 i))], [], []⟩) (fun i => i ≤ l.length ∧ (0 : Int) ≤ a - l.length - listSize tToken (l.take i)) (fun i => l.length - i) ⟨0, ⟨Nat.zero_le _, by simp [listSize]; omega⟩, ?_⟩ (fun i hi => ?_)
  · repeat' first
      | exact trivial | refine Weak.mk ?_ ?_ ?_ ?_ (Or.inl (Nat.le_of_ble_eq_true rfl)) | refine Weak.mk ?_ ?_ ?_ ?_ (Or.inr ⟨(by repeat' first | exact trivial | exact Nat.le_of_ble_eq_true rfl | refine And.intro ?_ ?_), (by repeat' first | exact trivial | exact Nat.le_of_ble_eq_true rfl | refine And.intro ?_ ?_)⟩) | refine Weak.mk ?_ ?_ ?_ ?_ ?_ | refine And.intro ?_ ?_ | with_reducible rfl | exact Nat.le_of_ble_eq_true rfl | refine fr1 ?_ | refine fr2 ?_ ?_ | refine AV.int_congr ?_ | refine AV.bool_congr ?_ | refine AV.str_congr ?_ | refine AV.list_congr ?_ | refine AV.bsl_congr ?_ ?_ | (apply rfl)
    rw [hw]; simp [listSize]
  obtain ⟨hp1, hp2⟩ := hi
  have hle := listSize_take_le tToken l (i + 1)
  have hbi : i < l.length → tToken.bd (l.getD i default) := fun h => hb _ (List.mem_of_getElem? (tToken_get h))
  have hsz : i < l.length → listSize tToken (l.take (i + 1)) = listSize tToken (l.take i) + tToken.size (l.getD i default) := fun h => listSize_take_succ tToken (tToken_get h)
  repeat' first
    | contradiction | exact trivial
    | (conv => whnf
       first | refine Need.mk (fun h => h) ?_ | refine Need.mk rfl ?_ | refine Need.mk ⟨rfl, Nat.le_of_ble_eq_true rfl⟩ ?_ | refine Need.mk (Nat.le_of_ble_eq_true rfl) ?_ | refine Need.fin ?_ | refine Need.mk ?_ ?_ | refine Ix.strsF rfl ?_ | refine Ix.strs rfl ?_ ?_ | refine Cut.strs rfl ?_ ?_ | refine Ix.mapF (fun _ => rfl) ?_ | refine Ix.map (fun _ => rfl) ?_ ?_ | refine Cut.map (fun _ => rfl) ?_ ?_ | refine Fork.yes (by assumption) ?_ | refine Fork.no (by assumption) ?_ | refine Fork.decYes (by omega) ?_ | refine Fork.decNo (by omega) ?_ | refine Fork.dec (fun _ => ?_) (fun _ => ?_) | refine Fork.bne (fun _ => ?_) (fun _ => ?_) | refine Fork.beq (fun _ => ?_) (fun _ => ?_) | refine Fork.seq (fun _ => ?_) (fun _ => ?_) | refine Fork.sne (fun _ => ?_) (fun _ => ?_) | refine Fork.neg (fun _ => ?_) (fun _ => ?_) | refine Fork.mk (fun _ => ?_) (fun _ => ?_) | refine HAlt.mk ?_ ?_ | apply HJoin.mk3 | exact HEnd.mk rfl rfl rfl | refine HEnd.mk ?_ ?_ ?_ | refine Round.mk ?_ | refine NilQ.mk (fun b hb => ?_) | refine forceK_of ?_ | refine forceBx_of ?_ | refine unG_old ?_ | refine unG_gv ?_ | refine Lit.read rfl ?_ | refine LitO.own rfl ?_ | refine FinVal.keep ?_ | refine FinAgg.keep ?_ | refine Final.mk rfl rfl | refine Final.mk ?_ rfl | refine Final.mk ?_ ?_ | refine FinalT.mk ?_ ?_ | refine FinalI.mk ?_ | refine FinalC.allA ?_ | refine ACall.scalA _ _ (szToken.ret _ _ ?_ ?_ ?_) rfl ?_ | refine AQCall.mkA _ _ (fun hg => szToken.ret _ _ ?_ ?_ ?_) rfl ?_ | refine AGCall.mkA _ _ (fun hg => szToken.ret _ _ ?_ ?_ ?_) rfl ?_)
    | refine AV.bool_congr ?_ | refine AV.int_congr ?_ | refine AV.str_congr ?_ | refine AV.list_congr ?_ | with_reducible rfl | refine fr1 ?_ | refine fr2 ?_ ?_
  · exact hp2
  · omega
  · rename_i h1
    rw [length_rows] at h1
    rw [Int.toNat_natCast]; exact hbi (by omega)
  · rename_i h1 h2
    rw [length_rows] at h1
    rw [Int.toNat_natCast] at h2
    have := hsz (by omega)
    unfold left at h2 ⊢
    split at h2
    · rw [if_pos (by omega)]
    · omega
  · rename_i h1 h2
    rw [length_rows] at h1
    rw [Int.toNat_natCast] at h2
    have := hsz (by omega)
    have e : left (a - ↑l.length - ↑(listSize tToken (l.take i))) (tToken.size (l.getD i default)) = a - ↑l.length - ↑(listSize tToken (l.take (i + 1))) := by
      unfold left at h2 ⊢
      split at h2
      · omega
      · rw [if_neg ‹_›]; omega
    refine ⟨i + 1, ⟨by omega, ?_⟩, ?_, by omega⟩
    · rw [← e]; omega
    · repeat' first
        | exact trivial | refine Weak.mk ?_ ?_ ?_ ?_ (Or.inl (Nat.le_of_ble_eq_true rfl)) | refine Weak.mk ?_ ?_ ?_ ?_ (Or.inr ⟨(by repeat' first | exact trivial | exact Nat.le_of_ble_eq_true rfl | refine And.intro ?_ ?_), (by repeat' first | exact trivial | exact Nat.le_of_ble_eq_true rfl | refine And.intro ?_ ?_)⟩) | refine Weak.mk ?_ ?_ ?_ ?_ ?_ | refine And.intro ?_ ?_ | with_reducible rfl | exact Nat.le_of_ble_eq_true rfl | refine fr1 ?_ | refine fr2 ?_ ?_ | refine AV.int_congr ?_ | refine AV.bool_congr ?_ | refine AV.str_congr ?_ | refine AV.list_congr ?_ | refine AV.bsl_congr ?_ ?_ | (apply rfl)
      · rw [Int.toNat_natCast]; exact e
      · rw [wrap64 (by omega) (by omega)]; rfl
  · rename_i h1
    rw [length_rows] at h1
    rw [List.take_of_length_le (by omega)] at hp2 ⊢
    rw [left, if_neg (by omega)]; omega
theorem eqTokenS.big (l m : List VToken) (h : tTokens.size l ≤ 1099511627775) : eqTokenS.Ret [.list none (rows tToken l), .list none (rows tToken m)] (.val (.bool (decide (l = m)))) [] := by
  refine eqTokenS.of rfl ?_
  rw [tTokens_sz] at h
  repeat' first
    | (conv => whnf
       first | refine Need.mk rfl ?_ | refine Fork.bne (fun _ => ?_) (fun _ => ?_) | refine LitO.own rfl ?_ | refine FinVal.keep ?_ | refine Final.mk ?_ rfl)
    | refine AV.bool_congr ?_
  · rename_i h
    rw [length_rows, length_rows] at h
    have h3 : ¬ l = m := fun e => h (by rw [e])
    simp [h3]
  rename_i h
  rw [length_rows, length_rows] at h
  have h : l.length = m.length := by omega
  skip
  refine ALoop.mk Nat (fun i => ⟨[(0, .list none (rows tToken l)), (1, .list none (rows tToken m)), (5, .val (.int .i64 i))], [], []⟩) (fun i => i ≤ l.length ∧ l.take i = m.take i) (fun i => l.length - i) ⟨0, ⟨Nat.zero_le _, rfl⟩, ?_⟩ (fun i hi => ?_)
  · repeat' first
      | exact trivial | refine Weak.mk ?_ ?_ ?_ ?_ (Or.inl (Nat.le_of_ble_eq_true rfl)) | refine And.intro ?_ ?_ | with_reducible rfl | exact Nat.le_of_ble_eq_true rfl | refine AV.int_congr ?_ | refine AV.list_congr ?_ | (apply rfl)
  repeat' first
    | (conv => whnf
       first | refine Need.mk rfl ?_ | refine Need.mk (Nat.le_of_ble_eq_true rfl) ?_ | refine Ix.mapF (fun _ => rfl) ?_ | refine Fork.dec (fun _ => ?_) (fun _ => ?_) | refine Fork.neg (fun _ => ?_) (fun _ => ?_) | refine Round.mk ?_ | refine LitO.own rfl ?_ | refine FinVal.keep ?_ | refine Final.mk ?_ rfl | refine AQCall.mkA _ _ (fun hg => eqToken.big _ _ ?_) rfl ?_)
    | refine AV.bool_congr ?_
  · rename_i h1
    rw [length_rows] at h1
    have := listSize_mem tToken (List.mem_of_getElem? (tToken_get (l := l) (i := i) (by omega)))
    rw [Int.toNat_natCast]; omega
  · rename_i h1 h2
    have h3 : ¬ l = m := fun e => of_decide_eq_false h2 (by rw [e])
    simp [h3]
  · rename_i h1 h2
    rw [length_rows] at h1
    rw [Int.toNat_natCast] at h2
    refine ⟨i + 1, ⟨by omega, ?_⟩, ?_, by omega⟩
    · rw [take_succ' default (by omega), take_succ' (l := m) default (by omega), hi.2, of_decide_eq_true h2]
    · repeat' first
        | exact trivial | refine Weak.mk ?_ ?_ ?_ ?_ (Or.inl (Nat.le_of_ble_eq_true rfl)) | refine And.intro ?_ ?_ | with_reducible rfl | exact Nat.le_of_ble_eq_true rfl | refine AV.int_congr ?_ | refine AV.list_congr ?_ | (apply rfl)
      rw [wrap64 (by omega) (by omega)]; rfl
  · rename_i h1
    rw [length_rows] at h1
    have h2 := hi.2
    rw [List.take_of_length_le (by omega), List.take_of_length_le (by omega)] at h2
    simp [h2]
theorem markTokenS.tn (l : List VToken) (k : Nat) (hs : tTokens.size l ≤ 1099511627775) (hk : k + cn (.l 154 2 (l.map tToken.q)) ≤ 1099511627775) :
    markTokenS.Turn (gb (.l 154 2 (l.map tToken.q)) 0) [gv (.l 154 2 (l.map tToken.q)) 0, .val (.int .i64 k)] (.val (.int .i64 ((k + cn (.l 154 2 (l.map tToken.q)) : Nat)))) (gb (mk (.l 154 2 (l.map tToken.q)) k) 0) := by
  refine markTokenS.ofT rfl rfl (by rw [length_gb, nb_mk]) ?_
  obtain ⟨cs, hcs⟩ : ∃ cs, cs = (l.map tToken.q).flatten := ⟨_, rfl⟩
  have hlen : cs.length = l.length * 2 := by rw [hcs]; exact flat_len _ 2 tToken.hq l
  have hc0 : ∀ i, i < l.length → cs[i * 2 + 0]? = some (.l 144 2 ((l.getD i default).1.map tFct.q)) := fun i hi => by rw [hcs]; exact cell_at tToken.q 2 tToken.hq hi rfl
  have hc1 : ∀ i, i < l.length → cs[i * 2 + 1]? = some (.l 65 2 ((l.getD i default).2.map tPair.q)) := fun i hi => by rw [hcs]; exact cell_at tToken.q 2 tToken.hq hi rfl
  rw [gb_mk_l0, gb_l0, cn_l, gv, List.length_map, ← hcs]
  rw [cn_l, ← hcs] at hk
  clear hcs
  skip
  refine ALoop.mk Nat (fun i => ⟨[(0, .bsl 0 l.length), (1, .val (.int .i64 ((k + cnC (cs.take (i * 2)) : Nat)))), (5, .val (.int .i64 i))], .cells (.row 154 2) (gvL (st cs k (i * 2)) 1) :: gbL (st cs k (i * 2)) 1, []⟩) (fun i => i ≤ l.length) (fun i => l.length - i) ⟨0, Nat.zero_le _, ?_⟩ (fun i hi => ?_)
  · refine weak_st ⟨rfl, ?_, rfl, trivial⟩ ?_ ?_ rfl ?_
    · rw [Nat.zero_mul]; rfl
    · rw [Nat.zero_mul, st_zero]
    · rw [Nat.zero_mul, st_zero]
    · rw [Nat.zero_mul, st_zero, List.length_cons]; exact Nat.le_refl _
  have hle := cn_take_le cs (i * 2)
  rw [tTokens_sz] at hs
  rcases Nat.lt_or_ge i l.length with hlt | hge
  rotate_left
  · have hiw : i * 2 = cs.length := by omega
    repeat' first
      | (conv => whnf
         first | refine Need.mk rfl ?_ | refine Fork.decNo (by omega) ?_ | refine forceBx_of ?_ | refine LitO.own rfl ?_ | refine FinalT.mk ?_ ?_)
      | refine AV.int_congr ?_
    · rw [hiw, List.take_length]
    · rw [hiw, st_all cs k rfl]; exact take_all (by rw [List.length_cons, List.length_cons, length_gbL, length_gbL, nbL_mkC]; exact Nat.le_refl _)
  have hi1 : (i + 1) * 2 = i * 2 + 2 := by omega
  have hsz := tToken_le hlt
  have hz25 := tToken_size (l.getD i default)
  repeat' first
    | (conv => whnf
       first | refine Need.mk rfl ?_ | refine Need.fin ?_ | refine Fork.decYes (by omega) ?_ | refine forceBx_of ?_ | refine LitO.own rfl ?_)
  have l0 := cn_take_le cs (i * 2 + 1)
  have n0 : cnC (cs.take (i * 2 + 1)) = cnC (cs.take (i * 2)) + cn (.l 144 2 ((l.getD i default).1.map tFct.q)) := cn_succ (hc0 i hlt)
  have g0 : gvL (st cs k (i * 2 + 1)) 1 = gvL (st cs k (i * 2)) 1 := gvL_stL k 1 (hc0 i hlt)
  have t0 : markFactS.Turn (gb (.l 144 2 ((l.getD i default).1.map tFct.q)) 0) [gv (.l 144 2 ((l.getD i default).1.map tFct.q)) 0, .val (.int .i64 ((k + cnC (cs.take (i * 2)) : Nat)))] (.val (.int .i64 ((k + cnC (cs.take (i * 2 + 1)) : Nat)))) (gb (mk (.l 144 2 ((l.getD i default).1.map tFct.q)) (k + cnC (cs.take (i * 2)))) 0) := by
    have h := markFactS.tn (l.getD i default).1 (k + cnC (cs.take (i * 2))) (by omega) (by omega)
    rw [Nat.add_assoc, ← n0] at h; exact h
  have d0 : (gvL (st cs k (i * 2)) 1).drop (i * 2) = gv (.l 144 2 ((l.getD i default).1.map tFct.q)) (1 + nbL (cs.take (i * 2))) :: gvL (cs.drop (i * 2 + 1)) (1 + nbL (cs.take (i * 2)) + nb (.l 144 2 ((l.getD i default).1.map tFct.q))) := by
    have h := ld_st k 1 (hc0 i hlt)
    try simp only [Nat.add_zero] at h
    exact h
  conv => whnf
  refine takeAV_one (n := 1) _ _ d0 ?_
  conv => whnf
  refine ACall.turn' (.cells (.row 154 2) (gvL (st cs k (i * 2)) 1) :: gbL (st cs k (i * 2 + 1)) 1) [gv (.l 144 2 ((l.getD i default).1.map tFct.q)) 0, .val (.int .i64 ((k + cnC (cs.take (i * 2)) : Nat)))] (.l 144 2 ((l.getD i default).1.map tFct.q)) (mk (.l 144 2 ((l.getD i default).1.map tFct.q)) (k + cnC (cs.take (i * 2)))) _ (.cells (.row 154 2) (gvL (st cs k (i * 2)) 1) :: gbL (mkC (cs.take (i * 2)) k) 1) (gbL (cs.drop (i * 2 + 1)) (1 + nbL (cs.take (i * 2)) + nb (.l 144 2 ((l.getD i default).1.map tFct.q)))) t0 rfl ?_ (nb_mk _ _) (.cons (.inl ⟨by rw [pre_st]; rfl, rfl⟩) (.cons (.inr (by exact Sees0.val _)) .nil)) ?_ ?_
  · exact bx_st k (hc0 i hlt) _
  · exact bx_st' k (hc0 i hlt) _
  repeat' first
    | (conv => whnf
       first | refine Need.fin ?_)
  have l1 := cn_take_le cs (i * 2 + 2)
  have n1 : cnC (cs.take (i * 2 + 2)) = cnC (cs.take (i * 2 + 1)) + cn (.l 65 2 ((l.getD i default).2.map tPair.q)) := cn_succ (hc1 i hlt)
  have g1 : gvL (st cs k (i * 2 + 2)) 1 = gvL (st cs k (i * 2 + 1)) 1 := gvL_stL k 1 (hc1 i hlt)
  have t1 : markPairS.Turn (gb (.l 65 2 ((l.getD i default).2.map tPair.q)) 0) [gv (.l 65 2 ((l.getD i default).2.map tPair.q)) 0, .val (.int .i64 ((k + cnC (cs.take (i * 2 + 1)) : Nat)))] (.val (.int .i64 ((k + cnC (cs.take (i * 2 + 2)) : Nat)))) (gb (mk (.l 65 2 ((l.getD i default).2.map tPair.q)) (k + cnC (cs.take (i * 2 + 1)))) 0) := by
    have h := markPairS.tn (l.getD i default).2 (k + cnC (cs.take (i * 2 + 1))) (by omega) (by omega)
    rw [Nat.add_assoc, ← n1] at h; exact h
  have d1 : (gvL (st cs k (i * 2)) 1).drop (i * 2 + 1) = gv (.l 65 2 ((l.getD i default).2.map tPair.q)) (1 + nbL (cs.take (i * 2 + 1))) :: gvL (cs.drop (i * 2 + 1 + 1)) (1 + nbL (cs.take (i * 2 + 1)) + nb (.l 65 2 ((l.getD i default).2.map tPair.q))) := by
    have h := ld_st k 1 (hc1 i hlt)
    try simp only [Nat.add_zero] at h
    rw [g0] at h
    exact h
  conv => whnf
  refine takeAV_one (n := 1) _ _ d1 ?_
  conv => whnf
  refine ACall.turn' (.cells (.row 154 2) (gvL (st cs k (i * 2)) 1) :: gbL (st cs k (i * 2 + 2)) 1) [gv (.l 65 2 ((l.getD i default).2.map tPair.q)) 0, .val (.int .i64 ((k + cnC (cs.take (i * 2 + 1)) : Nat)))] (.l 65 2 ((l.getD i default).2.map tPair.q)) (mk (.l 65 2 ((l.getD i default).2.map tPair.q)) (k + cnC (cs.take (i * 2 + 1)))) _ (.cells (.row 154 2) (gvL (st cs k (i * 2)) 1) :: gbL (mkC (cs.take (i * 2 + 1)) k) 1) (gbL (cs.drop (i * 2 + 1 + 1)) (1 + nbL (cs.take (i * 2 + 1)) + nb (.l 65 2 ((l.getD i default).2.map tPair.q)))) t1 rfl ?_ (nb_mk _ _) (.cons (.inl ⟨by rw [pre_st]; rfl, rfl⟩) (.cons (.inr (by exact Sees0.val _)) .nil)) ?_ ?_
  · exact bx_st k (hc1 i hlt) _
  · exact bx_st' k (hc1 i hlt) _
  repeat' first
    | (conv => whnf
       first | refine Need.mk rfl ?_ | refine Round.mk ?_ | refine LitO.own rfl ?_)
  refine ⟨i + 1, by omega, weak_st ⟨rfl, AV.int_congr ?_, AV.int_congr ?_, trivial⟩ (congrArg (ABox.cells (.row 154 2)) ?_) ?_ rfl ?_, by omega⟩
  · rw [hi1]
  · rw [wrap64 (by omega) (by omega)]; rfl
  · rw [hi1, g1, g0]
    try rfl
  · rw [hi1]
  · simp only [hi1, List.length_cons, length_gbL, nbL_st, Nat.le_refl]
end Go.Proofs.Ytfnejdkkhpjhmaa
