/-
  What stands below some laws' proofs, part 2: contracts of functions, by an evaluator.
-/
import Derived.Test.YtplfkocigmnpmaaZA1
namespace Go.Proofs.Ytplfkocigmnpmaa
open Abs
theorem tFact_size (a : Fct) : tFct.size a = a.1.length + tStrs.size a.2 := rfl
theorem tFct_cn : CnB tFct 2 := CnB.pair CnB.str (CnB.plain CnB.str _ _ _)
theorem tFcts_sz (l : List Fct) : tFcts.size l = l.length + listSize tFct l := rfl
theorem tFct_get {l : List Fct} {i : Nat} (hi : i < l.length) : l[i]? = some (l.getD i default) := by simp [List.getD, hi]
theorem tFct_le {l : List Fct} {i : Nat} (hi : i < l.length) : tFct.size (l.getD i default) ≤ listSize tFct l := listSize_mem tFct (List.mem_of_getElem? (tFct_get hi))
theorem Abs.ACall.mk_Fact {C : Con} {lend : Bool} {f : Nat} {vs : List AV} {b : List ABox} {fr : Fr} {k : AV → List ABox → Fr → Prop} (ys : List AV) (a : Fct) (h : C.ret f ys (.agg (tFct.tk a 0)) (tFct.fr a)) (hv : SeesL Sees0 vs ys)
    (hk : k (.agg (tFct.tk a fr.length)) b (fr ++ tFct.fr a)) : ACall C lend f vs b fr k := ACall.mkA tFct ys a h hv hk
theorem Abs.ACall.mk_FactS {C : Con} {lend : Bool} {f : Nat} {vs : List AV} {b : List ABox} {fr : Fr} {k : AV → List ABox → Fr → Prop} (ys : List AV) (l : List Fct) (h : C.ret f ys (.list (some (0 + (frs tFct l).length)) (tks tFct l 0)) (tFcts.fr l)) (hv : SeesL Sees0 vs ys)
    (hk : k (.list (some (fr.length + (frs tFct l).length)) (tks tFct l fr.length)) b (fr ++ tFcts.fr l)) : ACall C lend f vs b fr k :=
  ACall.mkV tFcts ys l (fun n => .list (some (n + (frs tFct l).length)) (tks tFct l n)) (fun _ => rfl) h hv hk
theorem eqFact.big (f g : Fct) (h : tFct.size f ≤ 1099511627775) : eqFact.Ret [.agg (oldL (tFct.q f)), .agg (oldL (tFct.q g))] (.val (.bool (decide (f = g)))) [] := by
  refine eqFact.of rfl ?_
  have hz := tFact_size f
  repeat' first
    | (conv => whnf
       first | refine Fork.sne (fun _ => ?_) (fun _ => ?_) | refine Fork.neg (fun _ => ?_) (fun _ => ?_) | refine FinVal.keep ?_ | refine Final.mk ?_ rfl | refine ACall.scalA _ _ (eqStringS.big _ _ ?_) rfl ?_)
    | refine AV.bool_congr ?_
  all_goals first
    | omega
    | (simp only [tStrs_size, tInts_size] at *; omega)
    | (obtain ⟨x0, x1⟩ := f; obtain ⟨y0, y1⟩ := g; simp_all)
theorem eqFactS.big (l m : List Fct) (h : tFcts.size l ≤ 1099511627775) : eqFactS.Ret [.list none (rows tFct l), .list none (rows tFct m)] (.val (.bool (decide (l = m)))) [] := by
  refine eqFactS.of rfl ?_
  rw [tFcts_sz] at h
  repeat' first
    | (conv => whnf
       first | refine Need.mk rfl ?_ | refine Fork.bne (fun _ => ?_) (fun _ => ?_) | refine LitO.own rfl ?_ | refine FinVal.keep ?_ | refine Final.mk ?_ rfl)
    | refine AV.bool_congr ?_
  · rename_i h
    rw [length_rows, length_rows] at h
    have h3 : ¬ l = m := fun e => h (by rw [e])
    simp [h3]
  rename_i h
  rw [length_rows, length_rows] at h
  have h : l.length = m.length := by omega
  skip
  refine ALoop.mk Nat (fun i => ⟨[(0, .list none (rows tFct l)), (1, .list none (rows tFct m)), (5, .val (.int .i64 i))], [], []⟩) (fun i => i ≤ l.length ∧ l.take i = m.take i) (fun i => l.length - i) ⟨0, ⟨Nat.zero_le _, rfl⟩, ?_⟩ (fun i hi => ?_)
  · repeat' first
      | exact trivial | refine Weak.mk ?_ ?_ ?_ ?_ (Or.inl (Nat.le_of_ble_eq_true rfl)) | refine And.intro ?_ ?_ | with_reducible rfl | exact Nat.le_of_ble_eq_true rfl | refine AV.int_congr ?_ | refine AV.list_congr ?_ | (apply rfl)
  repeat' first
    | (conv => whnf
       first | refine Need.mk rfl ?_ | refine Need.mk (Nat.le_of_ble_eq_true rfl) ?_ | refine Ix.mapF (fun _ => rfl) ?_ | refine Fork.dec (fun _ => ?_) (fun _ => ?_) | refine Fork.neg (fun _ => ?_) (fun _ => ?_) | refine Round.mk ?_ | refine LitO.own rfl ?_ | refine FinVal.keep ?_ | refine Final.mk ?_ rfl | refine AQCall.mkA _ _ (fun hg => eqFact.big _ _ ?_) rfl ?_)
    | refine AV.bool_congr ?_
  · rename_i h1
    rw [length_rows] at h1
    have := listSize_mem tFct (List.mem_of_getElem? (tFct_get (l := l) (i := i) (by omega)))
    rw [Int.toNat_natCast]; omega
  · rename_i h1 h2
    have h3 : ¬ l = m := fun e => of_decide_eq_false h2 (by rw [e])
    simp [h3]
  · rename_i h1 h2
    rw [length_rows] at h1
    rw [Int.toNat_natCast] at h2
    refine ⟨i + 1, ⟨by omega, ?_⟩, ?_, by omega⟩
    · rw [take_succ' default (by omega), take_succ' (l := m) default (by omega), hi.2, of_decide_eq_true h2]
    · repeat' first
        | exact trivial | refine Weak.mk ?_ ?_ ?_ ?_ (Or.inl (Nat.le_of_ble_eq_true rfl)) | refine And.intro ?_ ?_ | with_reducible rfl | exact Nat.le_of_ble_eq_true rfl | refine AV.int_congr ?_ | refine AV.list_congr ?_ | (apply rfl)
      rw [wrap64 (by omega) (by omega)]; rfl
  · rename_i h1
    rw [length_rows] at h1
    have h2 := hi.2
    rw [List.take_of_length_le (by omega), List.take_of_length_le (by omega)] at h2
    simp [h2]
theorem markFactS.tn (l : List Fct) (k : Nat) (hs : tFcts.size l ≤ 1099511627775) (hk : k + cn (.l 44 2 (l.map tFct.q)) ≤ 1099511627775) :
    markFactS.Turn (gb (.l 44 2 (l.map tFct.q)) 0) [gv (.l 44 2 (l.map tFct.q)) 0, .val (.int .i64 k)] (.val (.int .i64 ((k + cn (.l 44 2 (l.map tFct.q)) : Nat)))) (gb (mk (.l 44 2 (l.map tFct.q)) k) 0) := by
  refine markFactS.ofT rfl rfl (by rw [length_gb, nb_mk]) ?_
  obtain ⟨cs, hcs⟩ : ∃ cs, cs = (l.map tFct.q).flatten := ⟨_, rfl⟩
  have hlen : cs.length = l.length * 2 := by rw [hcs]; exact flat_len _ 2 tFct.hq l
  have hc0 : ∀ i, i < l.length → cs[i * 2 + 0]? = some (.s (l.getD i default).1) := fun i hi => by rw [hcs]; exact cell_at tFct.q 2 tFct.hq hi rfl
  have hc1 : ∀ i, i < l.length → cs[i * 2 + 1]? = some (.l 9 1 ((l.getD i default).2.map Ty.str.q)) := fun i hi => by rw [hcs]; exact cell_at tFct.q 2 tFct.hq hi rfl
  rw [gb_mk_l0, gb_l0, cn_l, gv, List.length_map, ← hcs]
  rw [cn_l, ← hcs] at hk
  clear hcs
  skip
  refine ALoop.mk Nat (fun i => ⟨[(0, .bsl 0 l.length), (1, .val (.int .i64 ((k + cnC (cs.take (i * 2)) : Nat)))), (5, .val (.int .i64 i))], .cells (.row 44 2) (gvL (st cs k (i * 2)) 1) :: gbL (st cs k (i * 2)) 1, []⟩) (fun i => i ≤ l.length) (fun i => l.length - i) ⟨0, Nat.zero_le _, ?_⟩ (fun i hi => ?_)
  · refine weak_st ⟨rfl, ?_, rfl, trivial⟩ ?_ ?_ rfl ?_
    · rw [Nat.zero_mul]; rfl
    · rw [Nat.zero_mul, st_zero]
    · rw [Nat.zero_mul, st_zero]
    · rw [Nat.zero_mul, st_zero, List.length_cons]; exact Nat.le_refl _
  have hle := cn_take_le cs (i * 2)
  rw [tFcts_sz] at hs
  rcases Nat.lt_or_ge i l.length with hlt | hge
  rotate_left
  · have hiw : i * 2 = cs.length := by omega
    repeat' first
      | (conv => whnf
         first | refine Need.mk rfl ?_ | refine Fork.decNo (by omega) ?_ | refine forceBx_of ?_ | refine LitO.own rfl ?_ | refine FinalT.mk ?_ ?_)
      | refine AV.int_congr ?_
    · rw [hiw, List.take_length]
    · rw [hiw, st_all cs k rfl]; exact take_all (by rw [List.length_cons, List.length_cons, length_gbL, length_gbL, nbL_mkC]; exact Nat.le_refl _)
  have hi1 : (i + 1) * 2 = i * 2 + 2 := by omega
  have hsz := tFct_le hlt
  have hz3 := tFact_size (l.getD i default)
  repeat' first
    | (conv => whnf
       first | refine Need.mk rfl ?_ | refine Fork.decYes (by omega) ?_ | refine forceBx_of ?_ | refine LitO.own rfl ?_)
  have l0 := cn_take_le cs (i * 2 + 1)
  have n0 : cnC (cs.take (i * 2 + 1)) = cnC (cs.take (i * 2)) + 1 := cn_succ (hc0 i hlt)
  have w0 : IntKind.i64.wrap (((k + cnC (cs.take (i * 2)) : Nat) : Int) + 1) = ((k + cnC (cs.take (i * 2 + 1)) : Nat) : Int) := by rw [wrap64 (by omega) (by omega)]; omega
  have b0 : gbL (st cs k (i * 2 + 1)) 1 = gbL (st cs k (i * 2)) 1 := gbL_st k 1 (hc0 i hlt) rfl
  have g0 : gvL (st cs k (i * 2 + 1)) 1 = (gvL (st cs k (i * 2)) 1).set (i * 2) (.str (markF (k + cnC (cs.take (i * 2))))) := gvL_st k 1 (hc0 i hlt)
  conv => whnf
  refine ACall.scal [.val (.int .i64 ((k + cnC (cs.take (i * 2)) : Nat)))] _ (markText.ret (k + cnC (cs.take (i * 2))) (by omega)) rfl (.cons (SeesB.of0 (by exact Sees0.val _)) .nil) ?_
  repeat' first
    | (conv => whnf
       first | refine Need.mk rfl ?_ | refine Need.fin ?_ | refine Need.mk ⟨rfl, by simp only [length_setAt, List.length_set, length_gvL, length_st, Int.toNat_natCast]; omega⟩ ?_ | refine LitO.own rfl ?_)
  have l1 := cn_take_le cs (i * 2 + 2)
  have n1 : cnC (cs.take (i * 2 + 2)) = cnC (cs.take (i * 2 + 1)) + cn (.l 9 1 ((l.getD i default).2.map Ty.str.q)) := cn_succ (hc1 i hlt)
  have g1 : gvL (st cs k (i * 2 + 2)) 1 = gvL (st cs k (i * 2 + 1)) 1 := gvL_stL k 1 (hc1 i hlt)
  have t1 : markStringS.Turn (gb (.l 9 1 ((l.getD i default).2.map Ty.str.q)) 0) [gv (.l 9 1 ((l.getD i default).2.map Ty.str.q)) 0, .val (.int .i64 ((k + cnC (cs.take (i * 2 + 1)) : Nat)))] (.val (.int .i64 ((k + cnC (cs.take (i * 2 + 2)) : Nat)))) (gb (mk (.l 9 1 ((l.getD i default).2.map Ty.str.q)) (k + cnC (cs.take (i * 2 + 1)))) 0) := by
    have h := markStringS.tn (l.getD i default).2 (k + cnC (cs.take (i * 2 + 1))) (by omega) (by omega)
    rw [Nat.add_assoc, ← n1] at h; exact h
  have d1 : ((gvL (st cs k (i * 2)) 1).set (i * 2) (.str (markF (k + cnC (cs.take (i * 2)))))).drop (i * 2 + 1) = gv (.l 9 1 ((l.getD i default).2.map Ty.str.q)) (1 + nbL (cs.take (i * 2 + 1))) :: gvL (cs.drop (i * 2 + 1 + 1)) (1 + nbL (cs.take (i * 2 + 1)) + nb (.l 9 1 ((l.getD i default).2.map Ty.str.q))) := by
    have h := ld_st k 1 (hc1 i hlt)
    try simp only [Nat.add_zero] at h
    rw [g0] at h
    exact h
  conv => whnf
  refine takeAV_one (n := 1) _ _ d1 ?_
  conv => whnf
  refine ACall.turn' (.cells (.row 44 2) ((gvL (st cs k (i * 2)) 1).set (i * 2) (.str (markF (k + cnC (cs.take (i * 2)))))) :: gbL (st cs k (i * 2 + 2)) 1) [gv (.l 9 1 ((l.getD i default).2.map Ty.str.q)) 0, .val (.int .i64 ((k + cnC (cs.take (i * 2 + 1)) : Nat)))] (.l 9 1 ((l.getD i default).2.map Ty.str.q)) (mk (.l 9 1 ((l.getD i default).2.map Ty.str.q)) (k + cnC (cs.take (i * 2 + 1)))) _ (.cells (.row 44 2) ((gvL (st cs k (i * 2)) 1).set (i * 2) (.str (markF (k + cnC (cs.take (i * 2)))))) :: gbL (mkC (cs.take (i * 2 + 1)) k) 1) (gbL (cs.drop (i * 2 + 1 + 1)) (1 + nbL (cs.take (i * 2 + 1)) + nb (.l 9 1 ((l.getD i default).2.map Ty.str.q)))) t1 rfl ?_ (nb_mk _ _) (.cons (.inl ⟨by rw [pre_st]; rfl, rfl⟩) (.cons (.inr (by rw [w0]; exact Sees0.val _)) .nil)) ?_ ?_
  · rw [← b0]; exact bx_st k (hc1 i hlt) _
  · exact bx_st' k (hc1 i hlt) _
  repeat' first
    | (conv => whnf
       first | refine Need.mk rfl ?_ | refine Round.mk ?_ | refine LitO.own rfl ?_)
  refine ⟨i + 1, by omega, weak_st ⟨rfl, AV.int_congr ?_, AV.int_congr ?_, trivial⟩ (congrArg (ABox.cells (.row 44 2)) ?_) ?_ rfl ?_, by omega⟩
  · rw [hi1]
  · rw [wrap64 (by omega) (by omega)]; rfl
  · rw [hi1, g1, g0]
    try rfl
  · rw [hi1]
  · simp only [hi1, List.length_cons, length_gbL, nbL_st, Nat.le_refl]
theorem heldFactS.hd (l : List Fct) (k : Nat) (hs : tFcts.size l ≤ 1099511627775) (hk : k + cn (.l 44 2 (l.map tFct.q)) ≤ 1099511627775) : heldFactS.Ret [old (mk (.l 44 2 (l.map tFct.q)) k), .val (.int .i64 k)] (.val (.int .i64 ((k + cn (.l 44 2 (l.map tFct.q)) : Nat)))) [] := by
  refine heldFactS.ofS rfl rfl ?_
  have hl : (oldLL (mkLL (l.map tFct.q) k)).length = l.length := by rw [length_oldLL, length_mkLL, List.length_map]
  change k + cnLL (l.map tFct.q) ≤ _ at hk
  show aCode _ _ _ _ (doneS _ (.val (.int .i64 ((k + cnLL (l.map tFct.q) : Nat))))) ⟨argEnv 0 [.list none (oldLL (mkLL (l.map tFct.q) k)), .val (.int .i64 k)], [], []⟩
  skip
  refine ALoop.mk Nat (fun i => ⟨[(0, .list none (oldLL (mkLL (l.map tFct.q) k))), (1, .val (.int .i64 ((k + cnLL ((l.map tFct.q).take i) : Nat)))), (5, .val (.int .i64 i))], [], []⟩) (fun i => i ≤ l.length) (fun i => l.length - i) ⟨0, Nat.zero_le _, ?_⟩ (fun i hi => ?_)
  · repeat' first
      | exact trivial | refine Weak.mk ?_ ?_ ?_ ?_ (Or.inl (Nat.le_of_ble_eq_true rfl)) | refine And.intro ?_ ?_ | with_reducible rfl | exact Nat.le_of_ble_eq_true rfl | refine AV.int_congr ?_ | refine AV.list_congr ?_ | (apply rfl)
  rw [tFcts_sz] at hs
  rcases Nat.lt_or_ge i l.length with hlt | hge
  rotate_left
  · have hil : (l.map tFct.q).take i = l.map tFct.q := List.take_of_length_le (by rw [List.length_map]; exact hge)
    repeat' first
      | (conv => whnf
         first | refine Need.mk rfl ?_ | refine Fork.decNo (by omega) ?_ | refine LitO.own rfl ?_ | refine FinVal.keep ?_ | refine Final.mk ?_ rfl)
      | refine AV.int_congr ?_
    rw [hil]
  have hx : (l.map tFct.q)[i]? = some (tFct.q (l.getD i default)) := by rw [List.getElem?_map, tFct_get hlt]; rfl
  have hle := cnLL_take_le (l.map tFct.q) (i + 1)
  have hn := cnLL_succ hx
  have hsz := tFct_le hlt
  have hz4 := tFact_size (l.getD i default)
  obtain ⟨K, hK⟩ : ∃ K, K = k + cnLL ((l.map tFct.q).take i) := ⟨_, rfl⟩
  have hix : (0 : Int) ≤ (i : Int) ∧ (oldLL (mkLL (l.map tFct.q) k))[(i : Int).toNat]? = some (oldL (mkC (tFct.q (l.getD i default)) K)) ∧ (oldL (mkC (tFct.q (l.getD i default)) K)).length = 2 := by
    refine ⟨by omega, ?_, by rw [oldL_eq, List.length_map, length_mkC, tFct.hq]; rfl⟩
    rw [Int.toNat_natCast, oldLL_eq, List.getElem?_map, mkLL_get _ _ _ _ hx, oldL_eq, hK]; rfl
  have hKn : k + cnLL ((l.map tFct.q).take (i + 1)) = K + 1 + cn (.l 9 1 ((l.getD i default).2.map Ty.str.q)) := by
    rw [hn, ← Nat.add_assoc, ← hK]
    show K + (1 + (cn (.l 9 1 ((l.getD i default).2.map Ty.str.q)) + (0))) = _
    simp only [Nat.add_assoc, Nat.add_zero]
  rw [← hK]
  have w0 : IntKind.i64.wrap (((K : Nat) : Int) + 1) = ((K + 1 : Nat) : Int) := by rw [wrap64 (by omega) (by omega)]; omega
  repeat' first
    | (conv => whnf
       first | refine Need.mk rfl ?_ | refine Ix.mk _ (fun _ => hix) ?_ | refine Fork.decYes (by omega) ?_ | refine LitO.own rfl ?_)
  conv => whnf
  first
    | refine AQCall.mk [.val (.int .i64 ((K : Nat)))] _ (fun _ => markText.ret (K) (by omega)) rfl (fun _ => .cons (SeesB.of0 (by exact Sees0.val _)) .nil) ?_
    | refine ACall.scal [.val (.int .i64 ((K : Nat)))] _ (markText.ret (K) (by omega)) rfl (.cons (SeesB.of0 (by exact Sees0.val _)) .nil) ?_
  conv => whnf
  refine Fork.sne (fun h => absurd rfl h) (fun _ => ?_)
  repeat' first
    | (conv => whnf
       first | refine Need.mk rfl ?_ | refine Ix.mk _ (fun _ => hix) ?_ | refine LitO.own rfl ?_)
  conv => whnf
  refine ACall.scal [old (mk (.l 9 1 ((l.getD i default).2.map Ty.str.q)) (K + 1)), .val (.int .i64 ((K + 1 : Nat)))] _ (heldStringS.hd (l.getD i default).2 (K + 1) (by omega) (by omega)) rfl (.cons (SeesB.of0 (Sees0.olds _ _)) (.cons (SeesB.of0 (by rw [w0]; exact Sees0.val _)) .nil)) ?_
  repeat' first
    | (conv => whnf
       first | refine Need.mk rfl ?_ | refine Fork.decNo (by omega) ?_ | refine Round.mk ?_ | refine LitO.own rfl ?_)
  refine ⟨i + 1, by omega, ?_, by omega⟩
  repeat' first
    | exact trivial | refine Weak.mk ?_ ?_ ?_ ?_ (Or.inl (Nat.le_of_ble_eq_true rfl)) | refine And.intro ?_ ?_ | with_reducible rfl | exact Nat.le_of_ble_eq_true rfl | refine AV.int_congr ?_ | refine AV.list_congr ?_ | (apply rfl)
  · rw [hKn]
  · rw [wrap64 (by omega) (by omega)]; rfl
end Go.Proofs.Ytplfkocigmnpmaa
namespace Go.Proofs.Ytplfkocigmnpmaa
open Abs
abbrev VStamp := Fct × Int
instance : DecidableEq VStamp := instDecidableEqProd
def tStamp : Ty VStamp := Ty.pair tFct Ty.int
theorem tStamp_size (a : VStamp) : tStamp.size a = tFct.size a.1 + 0 := rfl
theorem tStamp_cn : CnB tStamp 3 := CnB.pair tFct_cn CnB.int
def tStamps : Ty (List VStamp) := Ty.list 90 tStamp
theorem tStamps_sz (l : List VStamp) : tStamps.size l = l.length + listSize tStamp l := rfl
theorem tStamp_get {l : List VStamp} {i : Nat} (hi : i < l.length) : l[i]? = some (l.getD i default) := by simp [List.getD, hi]
theorem tStamp_le {l : List VStamp} {i : Nat} (hi : i < l.length) : tStamp.size (l.getD i default) ≤ listSize tStamp l := listSize_mem tStamp (List.mem_of_getElem? (tStamp_get hi))
theorem Abs.ACall.mk_Stamp {C : Con} {lend : Bool} {f : Nat} {vs : List AV} {b : List ABox} {fr : Fr} {k : AV → List ABox → Fr → Prop} (ys : List AV) (a : VStamp) (h : C.ret f ys (.agg (tStamp.tk a 0)) (tStamp.fr a)) (hv : SeesL Sees0 vs ys)
    (hk : k (.agg (tStamp.tk a fr.length)) b (fr ++ tStamp.fr a)) : ACall C lend f vs b fr k := ACall.mkA tStamp ys a h hv hk
theorem toStamp.ret (a : VStamp) (h : tStamp.size a ≤ 1048576) : toStamp.Ret [.agg (oldL (tStamp.q a))] (.agg (tStamp.tk a 0)) (tStamp.fr a) := by
  refine toStamp.of rfl ?_
  rw [tStamp_size] at h
  repeat' first
    | contradiction | exact trivial
    | (conv => whnf
       first | refine Need.mk (fun h => h) ?_ | refine Need.mk rfl ?_ | refine Need.mk ⟨rfl, Nat.le_of_ble_eq_true rfl⟩ ?_ | refine Need.mk (Nat.le_of_ble_eq_true rfl) ?_ | refine Need.fin ?_ | refine Need.mk ?_ ?_ | refine Ix.strsF rfl ?_ | refine Ix.strs rfl ?_ ?_ | refine Cut.strs rfl ?_ ?_ | refine Ix.mapF (fun _ => rfl) ?_ | refine Ix.map (fun _ => rfl) ?_ ?_ | refine Cut.map (fun _ => rfl) ?_ ?_ | refine Fork.yes (by assumption) ?_ | refine Fork.no (by assumption) ?_ | refine Fork.decYes (by omega) ?_ | refine Fork.decNo (by omega) ?_ | refine Fork.dec (fun _ => ?_) (fun _ => ?_) | refine Fork.bne (fun _ => ?_) (fun _ => ?_) | refine Fork.beq (fun _ => ?_) (fun _ => ?_) | refine Fork.seq (fun _ => ?_) (fun _ => ?_) | refine Fork.sne (fun _ => ?_) (fun _ => ?_) | refine Fork.neg (fun _ => ?_) (fun _ => ?_) | refine Fork.mk (fun _ => ?_) (fun _ => ?_) | refine HAlt.mk ?_ ?_ | apply HJoin.mk3 | exact HEnd.mk rfl rfl rfl | refine HEnd.mk ?_ ?_ ?_ | refine Round.mk ?_ | refine NilQ.mk (fun b hb => ?_) | refine forceK_of ?_ | refine forceBx_of ?_ | refine unG_old ?_ | refine unG_gv ?_ | refine Lit.read rfl ?_ | refine LitO.own rfl ?_ | refine FinVal.keep ?_ | refine FinAgg.keep ?_ | refine Final.mk rfl rfl | refine Final.mk ?_ rfl | refine Final.mk ?_ ?_ | refine FinalT.mk ?_ ?_ | refine FinalI.mk ?_ | refine FinalC.allA ?_ | refine ACall.mk_Fact _ _ (toFact.ret _ ?_) (by repeat' first | exact SeesL.nil | refine SeesL.cons ?_ ?_ | exact SeesB.of0 (Sees0.val _) | exact SeesB.of0 (Sees0.str _) | exact SeesB.of0 (Sees0.olds _ _) | exact SeesB.of0 (Sees0.old _) | exact SeesB.of0 (Sees0.oldagg _) | exact SeesB.of0 Sees0.nil | exact Sees0.val _ | exact Sees0.str _ | exact Sees0.olds _ _ | exact Sees0.old _ | exact Sees0.oldagg _ | exact Sees0.nil | exact SeesB.of0 (Sees0.any _) | assumption | exact sees_gv _ _ _ (by assumption) (by first | assumption | exact BoxIn.last _ _ | exact BoxIn.more (BoxIn.last _ _) _) | refine SeesB.agg ?_ | refine Sees0.agg ?_ | exact SeesB.of0 (Sees0.clo SeesL.nil SeesL.nil) | exact Sees0.clo SeesL.nil SeesL.nil | exact SeesB.of0 (Sees0.list rfl) | exact Sees0.list rfl) ?_)
    | refine AV.bool_congr ?_ | refine AV.int_congr ?_ | refine AV.str_congr ?_ | refine AV.list_congr ?_ | with_reducible rfl | refine fr1 ?_ | refine fr2 ?_ ?_
  all_goals first
    | omega
    | (refine congrArg AV.agg ?_
       repeat' first
         | refine cons_congr ?_ ?_
         | refine tok_congr ?_ ?_
         | refine congrArg (tks _ _) ?_
         | rfl
       all_goals (simp [Ty.pair, Ty.str, Ty.int, Ty.bool, Nat.add_assoc]; done))
    | (simp [tStamp, Ty.pair, Ty.str, Ty.int, Ty.bool, List.append_assoc, Nat.add_assoc]; done)
theorem szStamp.ret (f : VStamp) (a : Int) (h0 : 0 ≤ a) (ha : a ≤ 1048576) (hb : tStamp.bd f) :
    szStamp.Ret [.agg (oldL (tStamp.q f)), .val (.int .i64 a)] (.val (.int .i64 (left a (tStamp.size f)))) [] := by
  refine szStamp.of rfl ?_
  have hz := tStamp_size f
  obtain ⟨hb0, hb1⟩ := hb
  by_cases c1 : a < (tFct.size f.1 : Int)
  · have e0 : left a (tFct.size f.1) = -1 := by rw [left, if_pos (by omega)]
    repeat' first
      | contradiction | exact trivial
      | (conv => whnf
         first | refine Need.mk (fun h => h) ?_ | refine Need.mk rfl ?_ | refine Need.mk ⟨rfl, Nat.le_of_ble_eq_true rfl⟩ ?_ | refine Need.mk (Nat.le_of_ble_eq_true rfl) ?_ | refine Need.fin ?_ | refine Need.mk ?_ ?_ | refine Ix.strsF rfl ?_ | refine Ix.strs rfl ?_ ?_ | refine Cut.strs rfl ?_ ?_ | refine Ix.mapF (fun _ => rfl) ?_ | refine Ix.map (fun _ => rfl) ?_ ?_ | refine Cut.map (fun _ => rfl) ?_ ?_ | refine Fork.yes (by assumption) ?_ | refine Fork.no (by assumption) ?_ | refine Fork.decYes (by omega) ?_ | refine Fork.decNo (by omega) ?_ | refine Fork.dec (fun _ => ?_) (fun _ => ?_) | refine Fork.bne (fun _ => ?_) (fun _ => ?_) | refine Fork.beq (fun _ => ?_) (fun _ => ?_) | refine Fork.seq (fun _ => ?_) (fun _ => ?_) | refine Fork.sne (fun _ => ?_) (fun _ => ?_) | refine Fork.neg (fun _ => ?_) (fun _ => ?_) | refine Fork.mk (fun _ => ?_) (fun _ => ?_) | refine HAlt.mk ?_ ?_ | apply HJoin.mk3 | exact HEnd.mk rfl rfl rfl | refine HEnd.mk ?_ ?_ ?_ | refine Round.mk ?_ | refine NilQ.mk (fun b hb => ?_) | refine forceK_of ?_ | refine forceBx_of ?_ | refine unG_old ?_ | refine unG_gv ?_ | refine Lit.read rfl ?_ | refine LitO.own rfl ?_ | refine FinVal.keep ?_ | refine FinAgg.keep ?_ | refine Final.mk rfl rfl | refine Final.mk ?_ rfl | refine Final.mk ?_ ?_ | refine FinalT.mk ?_ ?_ | refine FinalI.mk ?_ | refine FinalC.allA ?_ | refine ACall.scalA _ _ (szFact.ret _ _ ?_ ?_ ?_) rfl ?_ | refine AQCall.mkA _ _ (fun hg => szFact.ret _ _ ?_ ?_ ?_) rfl ?_ | refine AGCall.mkA _ _ (fun hg => szFact.ret _ _ ?_ ?_ ?_) rfl ?_)
      | refine AV.bool_congr ?_ | refine AV.int_congr ?_ | refine AV.str_congr ?_ | refine AV.list_congr ?_ | with_reducible rfl | refine fr1 ?_ | refine fr2 ?_ ?_
    all_goals first
      | assumption
      | omega
      | exact left_eq (by omega)
  have e0 : left a (tFct.size f.1) = a - (tFct.size f.1 : Int) := by rw [left, if_neg (by omega)]
  repeat' first
    | contradiction | exact trivial
    | (conv => whnf
       first | refine Need.mk (fun h => h) ?_ | refine Need.mk rfl ?_ | refine Need.mk ⟨rfl, Nat.le_of_ble_eq_true rfl⟩ ?_ | refine Need.mk (Nat.le_of_ble_eq_true rfl) ?_ | refine Need.fin ?_ | refine Need.mk ?_ ?_ | refine Ix.strsF rfl ?_ | refine Ix.strs rfl ?_ ?_ | refine Cut.strs rfl ?_ ?_ | refine Ix.mapF (fun _ => rfl) ?_ | refine Ix.map (fun _ => rfl) ?_ ?_ | refine Cut.map (fun _ => rfl) ?_ ?_ | refine Fork.yes (by assumption) ?_ | refine Fork.no (by assumption) ?_ | refine Fork.decYes (by omega) ?_ | refine Fork.decNo (by omega) ?_ | refine Fork.dec (fun _ => ?_) (fun _ => ?_) | refine Fork.bne (fun _ => ?_) (fun _ => ?_) | refine Fork.beq (fun _ => ?_) (fun _ => ?_) | refine Fork.seq (fun _ => ?_) (fun _ => ?_) | refine Fork.sne (fun _ => ?_) (fun _ => ?_) | refine Fork.neg (fun _ => ?_) (fun _ => ?_) | refine Fork.mk (fun _ => ?_) (fun _ => ?_) | refine HAlt.mk ?_ ?_ | apply HJoin.mk3 | exact HEnd.mk rfl rfl rfl | refine HEnd.mk ?_ ?_ ?_ | refine Round.mk ?_ | refine NilQ.mk (fun b hb => ?_) | refine forceK_of ?_ | refine forceBx_of ?_ | refine unG_old ?_ | refine unG_gv ?_ | refine Lit.read rfl ?_ | refine LitO.own rfl ?_ | refine FinVal.keep ?_ | refine FinAgg.keep ?_ | refine Final.mk rfl rfl | refine Final.mk ?_ rfl | refine Final.mk ?_ ?_ | refine FinalT.mk ?_ ?_ | refine FinalI.mk ?_ | refine FinalC.allA ?_ | refine ACall.scalA _ _ (szFact.ret _ _ ?_ ?_ ?_) rfl ?_ | refine AQCall.mkA _ _ (fun hg => szFact.ret _ _ ?_ ?_ ?_) rfl ?_ | refine AGCall.mkA _ _ (fun hg => szFact.ret _ _ ?_ ?_ ?_) rfl ?_)
    | refine AV.bool_congr ?_ | refine AV.int_congr ?_ | refine AV.str_congr ?_ | refine AV.list_congr ?_ | with_reducible rfl | refine fr1 ?_ | refine fr2 ?_ ?_
  all_goals first
    | assumption
    | omega
    | exact left_eq (by omega)
theorem eqStamp.big (f g : VStamp) (h : tStamp.size f ≤ 1099511627775) : eqStamp.Ret [.agg (oldL (tStamp.q f)), .agg (oldL (tStamp.q g))] (.val (.bool (decide (f = g)))) [] := by
  refine eqStamp.of rfl ?_
  have hz := tStamp_size f
  repeat' first
    | contradiction | exact trivial
    | (conv => whnf
       first | refine Need.mk (fun h => h) ?_ | refine Need.mk rfl ?_ | refine Need.mk ⟨rfl, Nat.le_of_ble_eq_true rfl⟩ ?_ | refine Need.mk (Nat.le_of_ble_eq_true rfl) ?_ | refine Need.fin ?_ | refine Need.mk ?_ ?_ | refine Ix.strsF rfl ?_ | refine Ix.strs rfl ?_ ?_ | refine Cut.strs rfl ?_ ?_ | refine Ix.mapF (fun _ => rfl) ?_ | refine Ix.map (fun _ => rfl) ?_ ?_ | refine Cut.map (fun _ => rfl) ?_ ?_ | refine Fork.yes (by assumption) ?_ | refine Fork.no (by assumption) ?_ | refine Fork.decYes (by omega) ?_ | refine Fork.decNo (by omega) ?_ | refine Fork.dec (fun _ => ?_) (fun _ => ?_) | refine Fork.bne (fun _ => ?_) (fun _ => ?_) | refine Fork.beq (fun _ => ?_) (fun _ => ?_) | refine Fork.seq (fun _ => ?_) (fun _ => ?_) | refine Fork.sne (fun _ => ?_) (fun _ => ?_) | refine Fork.neg (fun _ => ?_) (fun _ => ?_) | refine Fork.mk (fun _ => ?_) (fun _ => ?_) | refine HAlt.mk ?_ ?_ | apply HJoin.mk3 | exact HEnd.mk rfl rfl rfl | refine HEnd.mk ?_ ?_ ?_ | refine Round.mk ?_ | refine NilQ.mk (fun b hb => ?_) | refine forceK_of ?_ | refine forceBx_of ?_ | refine unG_old ?_ | refine unG_gv ?_ | refine Lit.read rfl ?_ | refine LitO.own rfl ?_ | refine FinVal.keep ?_ | refine FinAgg.keep ?_ | refine Final.mk rfl rfl | refine Final.mk ?_ rfl | refine Final.mk ?_ ?_ | refine FinalT.mk ?_ ?_ | refine FinalI.mk ?_ | refine FinalC.allA ?_ | refine ACall.scalA _ _ (eqFact.big _ _ ?_) rfl ?_ | refine AQCall.mkA _ _ (fun hg => eqFact.big _ _ ?_) rfl ?_ | refine AGCall.mkA _ _ (fun hg => eqFact.big _ _ ?_) rfl ?_)
    | refine AV.bool_congr ?_ | refine AV.int_congr ?_ | refine AV.str_congr ?_ | refine AV.list_congr ?_ | with_reducible rfl | refine fr1 ?_ | refine fr2 ?_ ?_
  all_goals first
    | omega
    | (simp only [tStrs_size, tInts_size] at *; omega)
    | (obtain ⟨⟨x00, x01⟩, x1⟩ := f; obtain ⟨⟨y00, y01⟩, y1⟩ := g; simp_all)
theorem toStampS.ret (l : List VStamp) (h : tStamps.size l ≤ 1048576) : toStampS.Ret [.list none (rows tStamp l)] (.list (some (0 + (frs tStamp l).length)) (tks tStamp l 0)) (tStamps.fr l) := by
  refine toStampS.of rfl ?_
  rw [tStamps_sz] at h
  repeat' first
    | contradiction | exact trivial
    | (conv => whnf
       first | refine Need.mk (fun h => h) ?_ | refine Need.mk rfl ?_ | refine Need.mk ⟨rfl, Nat.le_of_ble_eq_true rfl⟩ ?_ | refine Need.mk (Nat.le_of_ble_eq_true rfl) ?_ | refine Need.fin ?_ | refine Need.mk ?_ ?_ | refine Ix.strsF rfl ?_ | refine Ix.strs rfl ?_ ?_ | refine Cut.strs rfl ?_ ?_ | refine Ix.mapF (fun _ => rfl) ?_ | refine Ix.map (fun _ => rfl) ?_ ?_ | refine Cut.map (fun _ => rfl) ?_ ?_ | refine Fork.yes (by assumption) ?_ | refine Fork.no (by assumption) ?_ | refine Fork.decYes (by omega) ?_ | refine Fork.decNo (by omega) ?_ | refine Fork.dec (fun _ => ?_) (fun _ => ?_) | refine Fork.bne (fun _ => ?_) (fun _ => ?_) | refine Fork.beq (fun _ => ?_) (fun _ => ?_) | refine Fork.seq (fun _ => ?_) (fun _ => ?_) | refine Fork.sne (fun _ => ?_) (fun _ => ?_) | refine Fork.neg (fun _ => ?_) (fun _ => ?_) | refine Fork.mk (fun _ => ?_) (fun _ => ?_) | refine HAlt.mk ?_ ?_ | apply HJoin.mk3 | exact HEnd.mk rfl rfl rfl | refine HEnd.mk ?_ ?_ ?_ | refine Round.mk ?_ | refine NilQ.mk (fun b hb => ?_) | refine forceK_of ?_ | refine forceBx_of ?_ | refine unG_old ?_ | refine unG_gv ?_ | refine Lit.read rfl ?_ | refine LitO.own rfl ?_ | refine FinVal.keep ?_ | refine FinAgg.keep ?_ | refine Final.mk rfl rfl | refine Final.mk ?_ rfl | refine Final.mk ?_ ?_ | refine FinalT.mk ?_ ?_ | refine FinalI.mk ?_ | refine FinalC.allA ?_)
    | refine AV.bool_congr ?_ | refine AV.int_congr ?_ | refine AV.str_congr ?_ | refine AV.list_congr ?_ | with_reducible rfl | refine fr1 ?_ | refine fr2 ?_ ?_
  refine ALoop.mk Nat (fun i => ⟨[(0, .list none (rows tStamp l)), (3, .bsl 0 l.length), (4, .val (.int .i64 i))], [.cells (.row 90 3) (part [.str [], .val (.slice none 0 0), .val (.int .i64 0)] (tks tStamp l 0) i)], frs tStamp (l.take i)⟩) (fun i => i ≤ l.length) (fun i => l.length - i) ⟨0, Nat.zero_le _, ?_⟩ (fun i hi => ?_)
  · repeat' first
      | exact trivial | refine Weak.mk ?_ ?_ ?_ ?_ (Or.inl (Nat.le_of_ble_eq_true rfl)) | refine Weak.mk ?_ ?_ ?_ ?_ (Or.inr ⟨(by repeat' first | exact trivial | exact Nat.le_of_ble_eq_true rfl | refine And.intro ?_ ?_), (by repeat' first | exact trivial | exact Nat.le_of_ble_eq_true rfl | refine And.intro ?_ ?_)⟩) | refine Weak.mk ?_ ?_ ?_ ?_ ?_ | refine And.intro ?_ ?_ | with_reducible rfl | exact Nat.le_of_ble_eq_true rfl | refine fr1 ?_ | refine fr2 ?_ ?_ | refine AV.int_congr ?_ | refine AV.bool_congr ?_ | refine AV.str_congr ?_ | refine AV.list_congr ?_ | refine AV.bsl_congr ?_ ?_ | (apply rfl)
    · simp
    · simp only [List.nil_append, List.length_cons, List.length_nil, List.take_succ_cons, List.take_zero]
      rw [part_made (xs := tks tStamp l 0) (sz := 3) rfl (by decide) (by simp [length_tks])]; rfl
  repeat' first
    | contradiction | exact trivial
    | (conv => whnf
       first | refine Need.mk (fun h => h) ?_ | refine Need.mk rfl ?_ | refine Need.mk ⟨rfl, Nat.le_of_ble_eq_true rfl⟩ ?_ | refine Need.mk (Nat.le_of_ble_eq_true rfl) ?_ | refine Need.fin ?_ | refine Need.mk ?_ ?_ | refine Ix.strsF rfl ?_ | refine Ix.strs rfl ?_ ?_ | refine Cut.strs rfl ?_ ?_ | refine Ix.mapF (fun _ => rfl) ?_ | refine Ix.map (fun _ => rfl) ?_ ?_ | refine Cut.map (fun _ => rfl) ?_ ?_ | refine Fork.yes (by assumption) ?_ | refine Fork.no (by assumption) ?_ | refine Fork.decYes (by omega) ?_ | refine Fork.decNo (by omega) ?_ | refine Fork.dec (fun _ => ?_) (fun _ => ?_) | refine Fork.bne (fun _ => ?_) (fun _ => ?_) | refine Fork.beq (fun _ => ?_) (fun _ => ?_) | refine Fork.seq (fun _ => ?_) (fun _ => ?_) | refine Fork.sne (fun _ => ?_) (fun _ => ?_) | refine Fork.neg (fun _ => ?_) (fun _ => ?_) | refine Fork.mk (fun _ => ?_) (fun _ => ?_) | refine HAlt.mk ?_ ?_ | apply HJoin.mk3 | exact HEnd.mk rfl rfl rfl | refine HEnd.mk ?_ ?_ ?_ | refine Round.mk ?_ | refine NilQ.mk (fun b hb => ?_) | refine forceK_of ?_ | refine forceBx_of ?_ | refine unG_old ?_ | refine unG_gv ?_ | refine Lit.read rfl ?_ | refine LitO.own rfl ?_ | refine FinVal.keep ?_ | refine FinAgg.keep ?_ | refine Final.mk rfl rfl | refine Final.mk ?_ rfl | refine Final.mk ?_ ?_ | refine FinalT.mk ?_ ?_ | refine FinalI.mk ?_ | refine FinalC.allA ?_ | refine ACall.mk_Stamp _ _ (toStamp.ret _ ?_) (by repeat' first | exact SeesL.nil | refine SeesL.cons ?_ ?_ | exact SeesB.of0 (Sees0.val _) | exact SeesB.of0 (Sees0.str _) | exact SeesB.of0 (Sees0.olds _ _) | exact SeesB.of0 (Sees0.old _) | exact SeesB.of0 (Sees0.oldagg _) | exact SeesB.of0 Sees0.nil | exact Sees0.val _ | exact Sees0.str _ | exact Sees0.olds _ _ | exact Sees0.old _ | exact Sees0.oldagg _ | exact Sees0.nil | exact SeesB.of0 (Sees0.any _) | assumption | exact sees_gv _ _ _ (by assumption) (by first | assumption | exact BoxIn.last _ _ | exact BoxIn.more (BoxIn.last _ _) _) | refine SeesB.agg ?_ | refine Sees0.agg ?_ | exact SeesB.of0 (Sees0.clo SeesL.nil SeesL.nil) | exact Sees0.clo SeesL.nil SeesL.nil | exact SeesB.of0 (Sees0.list rfl) | exact Sees0.list rfl) ?_)
    | refine AV.bool_congr ?_ | refine AV.int_congr ?_ | refine AV.str_congr ?_ | refine AV.list_congr ?_ | with_reducible rfl | refine fr1 ?_ | refine fr2 ?_ ?_
  · rename_i h1
    rw [length_rows] at h1
    have := listSize_mem tStamp (List.mem_of_getElem? (tStamp_get (l := l) (i := i) (by omega)))
    rw [Int.toNat_natCast]; omega
  · rename_i h1
    rw [length_rows] at h1
    rw [part_len (sz := 3) rfl (tks_sz tStamp l 0) (by rw [length_tks]; exact hi), Int.toNat_natCast, length_tks]
    exact ⟨rfl, by omega⟩
  · rename_i h1
    rw [length_rows] at h1
    refine ⟨i + 1, by omega, ?_, by omega⟩
    repeat' first
      | exact trivial | refine Weak.mk ?_ ?_ ?_ ?_ (Or.inl (Nat.le_of_ble_eq_true rfl)) | refine Weak.mk ?_ ?_ ?_ ?_ (Or.inr ⟨(by repeat' first | exact trivial | exact Nat.le_of_ble_eq_true rfl | refine And.intro ?_ ?_), (by repeat' first | exact trivial | exact Nat.le_of_ble_eq_true rfl | refine And.intro ?_ ?_)⟩) | refine Weak.mk ?_ ?_ ?_ ?_ ?_ | refine And.intro ?_ ?_ | with_reducible rfl | exact Nat.le_of_ble_eq_true rfl | refine fr1 ?_ | refine fr2 ?_ ?_ | refine AV.int_congr ?_ | refine AV.bool_congr ?_ | refine AV.str_congr ?_ | refine AV.list_congr ?_ | refine AV.bsl_congr ?_ ?_ | (apply rfl)
    · rw [wrap64 (by omega) (by omega)]; rfl
    · have := part_set (z := [.str [], .val (.slice none 0 0), .val (.int .i64 0)]) (sz := 3) rfl (tks_sz tStamp l 0) (tks_get tStamp 0 (tStamp_get (l := l) (i := i) (by omega)))
      rw [Nat.zero_add] at this
      simp only [List.set_cons_zero, List.take_succ_cons, List.take_zero, List.length_cons, List.length_nil, Int.toNat_natCast, this]
    · show frs tStamp (l.take i) ++ tStamp.fr (l.getD (i : Int).toNat default) = frs tStamp (l.take (i + 1))
      rw [Int.toNat_natCast, take_succ' default (by omega), frs_append]; simp [frs]
  · rename_i h1
    rw [length_rows] at h1
    conv => whnf
    have : i = l.length := by omega
    subst this
    have hall := part_all [.str [], .val (.slice none 0 0), .val (.int .i64 0)] (tks tStamp l 0)
    rw [length_tks] at hall
    refine FreezeD.flat (Freeze.mk (tks tStamp l 0) _ 90 3 rfl hall (length_tks _ _ _) (tks_sz tStamp l 0) (fun c hc => ?_) ?_)
    · rw [hall] at hc; exact tks_nr tStamp l 0 c hc
    · refine Final.mk ?_ ?_
      · rw [List.take_length, Nat.zero_add]
      · rw [List.take_length]; rfl
theorem toStampS.own (l : List VStamp) (h : tStamps.size l ≤ 1048576) : toStampS.Own [.list none (rows tStamp l)] (.l 90 3 (l.map tStamp.q)) :=
  Ty.ownV tStamps (x := .l 90 3 (l.map tStamp.q)) rfl rfl (toStampS.ret l h)
theorem szStampS.ret (l : List VStamp) (a : Int) (h0 : 0 ≤ a) (ha : a ≤ 1048576) (hb : tStamps.bd l) :
    szStampS.Ret [.list none (rows tStamp l), .val (.int .i64 a)] (.val (.int .i64 (left a (tStamps.size l)))) [] := by
  refine szStampS.of rfl ?_
  obtain ⟨hl, hb⟩ := hb
  have hw : IntKind.i64.wrap (a - ((rows tStamp l).length : Int)) = a - l.length := by rw [length_rows]; exact wrap64 (by omega) (by omega)
  have hz := tStamps_sz l
  repeat' first
    | contradiction | exact trivial
    | (conv => whnf
       first | refine Need.mk (fun h => h) ?_ | refine Need.mk rfl ?_ | refine Need.mk ⟨rfl, Nat.le_of_ble_eq_true rfl⟩ ?_ | refine Need.mk (Nat.le_of_ble_eq_true rfl) ?_ | refine Need.fin ?_ | refine Need.mk ?_ ?_ | refine Ix.strsF rfl ?_ | refine Ix.strs rfl ?_ ?_ | refine Cut.strs rfl ?_ ?_ | refine Ix.mapF (fun _ => rfl) ?_ | refine Ix.map (fun _ => rfl) ?_ ?_ | refine Cut.map (fun _ => rfl) ?_ ?_ | refine Fork.yes (by assumption) ?_ | refine Fork.no (by assumption) ?_ | refine Fork.decYes (by omega) ?_ | refine Fork.decNo (by omega) ?_ | refine Fork.dec (fun _ => ?_) (fun _ => ?_) | refine Fork.bne (fun _ => ?_) (fun _ => ?_) | refine Fork.beq (fun _ => ?_) (fun _ => ?_) | refine Fork.seq (fun _ => ?_) (fun _ => ?_) | refine Fork.sne (fun _ => ?_) (fun _ => ?_) | refine Fork.neg (fun _ => ?_) (fun _ => ?_) | refine Fork.mk (fun _ => ?_) (fun _ => ?_) | refine HAlt.mk ?_ ?_ | apply HJoin.mk3 | exact HEnd.mk rfl rfl rfl | refine HEnd.mk ?_ ?_ ?_ | refine Round.mk ?_ | refine NilQ.mk (fun b hb => ?_) | refine forceK_of ?_ | refine forceBx_of ?_ | refine unG_old ?_ | refine unG_gv ?_ | refine Lit.read rfl ?_ | refine LitO.own rfl ?_ | refine FinVal.keep ?_ | refine FinAgg.keep ?_ | refine Final.mk rfl rfl | refine Final.mk ?_ rfl | refine Final.mk ?_ ?_ | refine FinalT.mk ?_ ?_ | refine FinalI.mk ?_ | refine FinalC.allA ?_)
    | refine AV.bool_congr ?_ | refine AV.int_congr ?_ | refine AV.str_congr ?_ | refine AV.list_congr ?_ | with_reducible rfl | refine fr1 ?_ | refine fr2 ?_ ?_
  · rename_i h
    rw [hw] at h
    rw [left, if_pos (by omega)]
  rename_i h
  rw [hw] at h
  repeat' first
    | contradiction | exact trivial
    | (conv => whnf
       first | refine Need.mk (fun h => h) ?_ | refine Need.mk rfl ?_ | refine Need.mk ⟨rfl, Nat.le_of_ble_eq_true rfl⟩ ?_ | refine Need.mk (Nat.le_of_ble_eq_true rfl) ?_ | refine Need.fin ?_ | refine Need.mk ?_ ?_ | refine Ix.strsF rfl ?_ | refine Ix.strs rfl ?_ ?_ | refine Cut.strs rfl ?_ ?_ | refine Ix.mapF (fun _ => rfl) ?_ | refine Ix.map (fun _ => rfl) ?_ ?_ | refine Cut.map (fun _ => rfl) ?_ ?_ | refine Fork.yes (by assumption) ?_ | refine Fork.no (by assumption) ?_ | refine Fork.decYes (by omega) ?_ | refine Fork.decNo (by omega) ?_ | refine Fork.dec (fun _ => ?_) (fun _ => ?_) | refine Fork.bne (fun _ => ?_) (fun _ => ?_) | refine Fork.beq (fun _ => ?_) (fun _ => ?_) | refine Fork.seq (fun _ => ?_) (fun _ => ?_) | refine Fork.sne (fun _ => ?_) (fun _ => ?_) | refine Fork.neg (fun _ => ?_) (fun _ => ?_) | refine Fork.mk (fun _ => ?_) (fun _ => ?_) | refine HAlt.mk ?_ ?_ | apply HJoin.mk3 | exact HEnd.mk rfl rfl rfl | refine HEnd.mk ?_ ?_ ?_ | refine Round.mk ?_ | refine NilQ.mk (fun b hb => ?_) | refine forceK_of ?_ | refine forceBx_of ?_ | refine unG_old ?_ | refine unG_gv ?_ | refine Lit.read rfl ?_ | refine LitO.own rfl ?_ | refine FinVal.keep ?_ | refine FinAgg.keep ?_ | refine Final.mk rfl rfl | refine Final.mk ?_ rfl | refine Final.mk ?_ ?_ | refine FinalT.mk ?_ ?_ | refine FinalI.mk ?_ | refine FinalC.allA ?_)
    | refine AV.bool_congr ?_ | refine AV.int_congr ?_ | refine AV.str_congr ?_ | refine AV.list_congr ?_ | with_reducible rfl | refine fr1 ?_ | refine fr2 ?_ ?_
  refine ALoop.mk Nat (fun i => ⟨[(0, .list none (rows tStamp l)), (1, .val (.int .i64 (a - l.length - listSize tStamp (l.take i)))), (5, .val (.int .i64 i))], [], []⟩) (fun i => i ≤ l.length ∧ (0 : Int) ≤ a - l.length - listSize tStamp (l.take i)) (fun i => l.length - i) ⟨0, ⟨Nat.zero_le _, by simp [listSize]; omega⟩, ?_⟩ (fun i hi => ?_)
  · repeat' first
      | exact trivial | refine Weak.mk ?_ ?_ ?_ ?_ (Or.inl (Nat.le_of_ble_eq_true rfl)) | refine Weak.mk ?_ ?_ ?_ ?_ (Or.inr ⟨(by repeat' first | exact trivial | exact Nat.le_of_ble_eq_true rfl | refine And.intro ?_ ?_), (by repeat' first | exact trivial | exact Nat.le_of_ble_eq_true rfl | refine And.intro ?_ ?_)⟩) | refine Weak.mk ?_ ?_ ?_ ?_ ?_ | refine And.intro ?_ ?_ | with_reducible rfl | exact Nat.le_of_ble_eq_true rfl | refine fr1 ?_ | refine fr2 ?_ ?_ | refine AV.int_congr ?_ | refine AV.bool_congr ?_ | refine AV.str_congr ?_ | refine AV.list_congr ?_ | refine AV.bsl_congr ?_ ?_ | (apply rfl)
    rw [hw]; simp [listSize]
  obtain ⟨hp1, hp2⟩ := hi
  have hle := listSize_take_le tStamp l (i + 1)
  have hbi : i < l.length → tStamp.bd (l.getD i default) := fun h => hb _ (List.mem_of_getElem? (tStamp_get h))
  have hsz : i < l.length → listSize tStamp (l.take (i + 1)) = listSize tStamp (l.take i) + tStamp.size (l.getD i default) := fun h => listSize_take_succ tStamp (tStamp_get h)
  repeat' first
    | contradiction | exact trivial
    | (conv => whnf
       first | refine Need.mk (fun h => h) ?_ | refine Need.mk rfl ?_ | refine Need.mk ⟨rfl, Nat.le_of_ble_eq_true rfl⟩ ?_ | refine Need.mk (Nat.le_of_ble_eq_true rfl) ?_ | refine Need.fin ?_ | refine Need.mk ?_ ?_ | refine Ix.strsF rfl ?_ | refine Ix.strs rfl ?_ ?_ | refine Cut.strs rfl ?_ ?_ | refine Ix.mapF (fun _ => rfl) ?_ | refine Ix.map (fun _ => rfl) ?_ ?_ | refine Cut.map (fun _ => rfl) ?_ ?_ | refine Fork.yes (by assumption) ?_ | refine Fork.no (by assumption) ?_ | refine Fork.decYes (by omega) ?_ | refine Fork.decNo (by omega) ?_ | refine Fork.dec (fun _ => ?_) (fun _ => ?_) | refine Fork.bne (fun _ => ?_) (fun _ => ?_) | refine Fork.beq (fun _ => ?_) (fun _ => ?_) | refine Fork.seq (fun _ => ?_) (fun _ => ?_) | refine Fork.sne (fun _ => ?_) (fun _ => ?_) | refine Fork.neg (fun _ => ?_) (fun _ => ?_) | refine Fork.mk (fun _ => ?_) (fun _ => ?_) | refine HAlt.mk ?_ ?_ | apply HJoin.mk3 | exact HEnd.mk rfl rfl rfl | refine HEnd.mk ?_ ?_ ?_ | refine Round.mk ?_ | refine NilQ.mk (fun b hb => ?_) | refine forceK_of ?_ | refine forceBx_of ?_ | refine unG_old ?_ | refine unG_gv ?_ | refine Lit.read rfl ?_ | refine LitO.own rfl ?_ | refine FinVal.keep ?_ | refine FinAgg.keep ?_ | refine Final.mk rfl rfl | refine Final.mk ?_ rfl | refine Final.mk ?_ ?_ | refine FinalT.mk ?_ ?_ | refine FinalI.mk ?_ | refine FinalC.allA ?_ | refine ACall.scalA _ _ (szStamp.ret _ _ ?_ ?_ ?_) rfl ?_ | refine AQCall.mkA _ _ (fun hg => szStamp.ret _ _ ?_ ?_ ?_) rfl ?_ | refine AGCall.mkA _ _ (fun hg => szStamp.ret _ _ ?_ ?_ ?_) rfl ?_)
    | refine AV.bool_congr ?_ | refine AV.int_congr ?_ | refine AV.str_congr ?_ | refine AV.list_congr ?_ | with_reducible rfl | refine fr1 ?_ | refine fr2 ?_ ?_
  · exact hp2
  · omega
  · rename_i h1
    rw [length_rows] at h1
    rw [Int.toNat_natCast]; exact hbi (by omega)
  · rename_i h1 h2
    rw [length_rows] at h1
    rw [Int.toNat_natCast] at h2
    have := hsz (by omega)
    unfold left at h2 ⊢
    split at h2
    · rw [if_pos (by omega)]
    · omega
  · rename_i h1 h2
    rw [length_rows] at h1
    rw [Int.toNat_natCast] at h2
    have := hsz (by omega)
    have e : left (a - ↑l.length - ↑(listSize tStamp (l.take i))) (tStamp.size (l.getD i default)) = a - ↑l.length - ↑(listSize tStamp (l.take (i + 1))) := by
      unfold left at h2 ⊢
      split at h2
      · omega
      · rw [if_neg ‹_›]; omega
    refine ⟨i + 1, ⟨by omega, ?_⟩, ?_, by omega⟩
    · rw [← e]; omega
    · repeat' first
        | exact trivial | refine Weak.mk ?_ ?_ ?_ ?_ (Or.inl (Nat.le_of_ble_eq_true rfl)) | refine Weak.mk ?_ ?_ ?_ ?_ (Or.inr ⟨(by repeat' first | exact trivial | exact Nat.le_of_ble_eq_true rfl | refine And.intro ?_ ?_), (by repeat' first | exact trivial | exact Nat.le_of_ble_eq_true rfl | refine And.intro ?_ ?_)⟩) | refine Weak.mk ?_ ?_ ?_ ?_ ?_ | refine And.intro ?_ ?_ | with_reducible rfl | exact Nat.le_of_ble_eq_true rfl | refine fr1 ?_ | refine fr2 ?_ ?_ | refine AV.int_congr ?_ | refine AV.bool_congr ?_ | refine AV.str_congr ?_ | refine AV.list_congr ?_ | refine AV.bsl_congr ?_ ?_ | (apply rfl)
      · rw [Int.toNat_natCast]; exact e
      · rw [wrap64 (by omega) (by omega)]; rfl
  · rename_i h1
    rw [length_rows] at h1
    rw [List.take_of_length_le (by omega)] at hp2 ⊢
    rw [left, if_neg (by omega)]; omega
theorem eqStampS.big (l m : List VStamp) (h : tStamps.size l ≤ 1099511627775) : eqStampS.Ret [.list none (rows tStamp l), .list none (rows tStamp m)] (.val (.bool (decide (l = m)))) [] := by
  refine eqStampS.of rfl ?_
  rw [tStamps_sz] at h
  repeat' first
    | contradiction | exact trivial
    | (conv => whnf
       first | refine Need.mk (fun h => h) ?_ | refine Need.mk rfl ?_ | refine Need.mk ⟨rfl, Nat.le_of_ble_eq_true rfl⟩ ?_ | refine Need.mk (Nat.le_of_ble_eq_true rfl) ?_ | refine Need.fin ?_ | refine Need.mk ?_ ?_ | refine Ix.strsF rfl ?_ | refine Ix.strs rfl ?_ ?_ | refine Cut.strs rfl ?_ ?_ | refine Ix.mapF (fun _ => rfl) ?_ | refine Ix.map (fun _ => rfl) ?_ ?_ | refine Cut.map (fun _ => rfl) ?_ ?_ | refine Fork.yes (by assumption) ?_ | refine Fork.no (by assumption) ?_ | refine Fork.decYes (by omega) ?_ | refine Fork.decNo (by omega) ?_ | refine Fork.dec (fun _ => ?_) (fun _ => ?_) | refine Fork.bne (fun _ => ?_) (fun _ => ?_) | refine Fork.beq (fun _ => ?_) (fun _ => ?_) | refine Fork.seq (fun _ => ?_) (fun _ => ?_) | refine Fork.sne (fun _ => ?_) (fun _ => ?_) | refine Fork.neg (fun _ => ?_) (fun _ => ?_) | refine Fork.mk (fun _ => ?_) (fun _ => ?_) | refine HAlt.mk ?_ ?_ | apply HJoin.mk3 | exact HEnd.mk rfl rfl rfl | refine HEnd.mk ?_ ?_ ?_ | refine Round.mk ?_ | refine NilQ.mk (fun b hb => ?_) | refine forceK_of ?_ | refine forceBx_of ?_ | refine unG_old ?_ | refine unG_gv ?_ | refine Lit.read rfl ?_ | refine LitO.own rfl ?_ | refine FinVal.keep ?_ | refine FinAgg.keep ?_ | refine Final.mk rfl rfl | refine Final.mk ?_ rfl | refine Final.mk ?_ ?_ | refine FinalT.mk ?_ ?_ | refine FinalI.mk ?_ | refine FinalC.allA ?_)
    | refine AV.bool_congr ?_ | refine AV.int_congr ?_ | refine AV.str_congr ?_ | refine AV.list_congr ?_ | with_reducible rfl | refine fr1 ?_ | refine fr2 ?_ ?_
  · rename_i h
    rw [length_rows, length_rows] at h
    have h3 : ¬ l = m := fun e => h (by rw [e])
    simp [h3]
  rename_i h
  rw [length_rows, length_rows] at h
  have h : l.length = m.length := by omega
  repeat' first
    | contradiction | exact trivial
    | (conv => whnf
       first | refine Need.mk (fun h => h) ?_ | refine Need.mk rfl ?_ | refine Need.mk ⟨rfl, Nat.le_of_ble_eq_true rfl⟩ ?_ | refine Need.mk (Nat.le_of_ble_eq_true rfl) ?_ | refine Need.fin ?_ | refine Need.mk ?_ ?_ | refine Ix.strsF rfl ?_ | refine Ix.strs rfl ?_ ?_ | refine Cut.strs rfl ?_ ?_ | refine Ix.mapF (fun _ => rfl) ?_ | refine Ix.map (fun _ => rfl) ?_ ?_ | refine Cut.map (fun _ => rfl) ?_ ?_ | refine Fork.yes (by assumption) ?_ | refine Fork.no (by assumption) ?_ | refine Fork.decYes (by omega) ?_ | refine Fork.decNo (by omega) ?_ | refine Fork.dec (fun _ => ?_) (fun _ => ?_) | refine Fork.bne (fun _ => ?_) (fun _ => ?_) | refine Fork.beq (fun _ => ?_) (fun _ => ?_) | refine Fork.seq (fun _ => ?_) (fun _ => ?_) | refine Fork.sne (fun _ => ?_) (fun _ => ?_) | refine Fork.neg (fun _ => ?_) (fun _ => ?_) | refine Fork.mk (fun _ => ?_) (fun _ => ?_) | refine HAlt.mk ?_ ?_ | apply HJoin.mk3 | exact HEnd.mk rfl rfl rfl | refine HEnd.mk ?_ ?_ ?_ | refine Round.mk ?_ | refine NilQ.mk (fun b hb => ?_) | refine forceK_of ?_ | refine forceBx_of ?_ | refine unG_old ?_ | refine unG_gv ?_ | refine Lit.read rfl ?_ | refine LitO.own rfl ?_ | refine FinVal.keep ?_ | refine FinAgg.keep ?_ | refine Final.mk rfl rfl | refine Final.mk ?_ rfl | refine Final.mk ?_ ?_ | refine FinalT.mk ?_ ?_ | refine FinalI.mk ?_ | refine FinalC.allA ?_)
    | refine AV.bool_congr ?_ | refine AV.int_congr ?_ | refine AV.str_congr ?_ | refine AV.list_congr ?_ | with_reducible rfl | refine fr1 ?_ | refine fr2 ?_ ?_
  refine ALoop.mk Nat (fun i => ⟨[(0, .list none (rows tStamp l)), (1, .list none (rows tStamp m)), (5, .val (.int .i64 i))], [], []⟩) (fun i => i ≤ l.length ∧ l.take i = m.take i) (fun i => l.length - i) ⟨0, ⟨Nat.zero_le _, rfl⟩, ?_⟩ (fun i hi => ?_)
  · repeat' first
      | exact trivial | refine Weak.mk ?_ ?_ ?_ ?_ (Or.inl (Nat.le_of_ble_eq_true rfl)) | refine Weak.mk ?_ ?_ ?_ ?_ (Or.inr ⟨(by repeat' first | exact trivial | exact Nat.le_of_ble_eq_true rfl | refine And.intro ?_ ?_), (by repeat' first | exact trivial | exact Nat.le_of_ble_eq_true rfl | refine And.intro ?_ ?_)⟩) | refine Weak.mk ?_ ?_ ?_ ?_ ?_ | refine And.intro ?_ ?_ | with_reducible rfl | exact Nat.le_of_ble_eq_true rfl | refine fr1 ?_ | refine fr2 ?_ ?_ | refine AV.int_congr ?_ | refine AV.bool_congr ?_ | refine AV.str_congr ?_ | refine AV.list_congr ?_ | refine AV.bsl_congr ?_ ?_ | (apply rfl)
  repeat' first
    | contradiction | exact trivial
    | (conv => whnf
       first | refine Need.mk (fun h => h) ?_ | refine Need.mk rfl ?_ | refine Need.mk ⟨rfl, Nat.le_of_ble_eq_true rfl⟩ ?_ | refine Need.mk (Nat.le_of_ble_eq_true rfl) ?_ | refine Need.fin ?_ | refine Need.mk ?_ ?_ | refine Ix.strsF rfl ?_ | refine Ix.strs rfl ?_ ?_ | refine Cut.strs rfl ?_ ?_ | refine Ix.mapF (fun _ => rfl) ?_ | refine Ix.map (fun _ => rfl) ?_ ?_ | refine Cut.map (fun _ => rfl) ?_ ?_ | refine Fork.yes (by assumption) ?_ | refine Fork.no (by assumption) ?_ | refine Fork.decYes (by omega) ?_ | refine Fork.decNo (by omega) ?_ | refine Fork.dec (fun _ => ?_) (fun _ => ?_) | refine Fork.bne (fun _ => ?_) (fun _ => ?_) | refine Fork.beq (fun _ => ?_) (fun _ => ?_) | refine Fork.seq (fun _ => ?_) (fun _ => ?_) | refine Fork.sne (fun _ => ?_) (fun _ => ?_) | refine Fork.neg (fun _ => ?_) (fun _ => ?_) | refine Fork.mk (fun _ => ?_) (fun _ => ?_) | refine HAlt.mk ?_ ?_ | apply HJoin.mk3 | exact HEnd.mk rfl rfl rfl | refine HEnd.mk ?_ ?_ ?_ | refine Round.mk ?_ | refine NilQ.mk (fun b hb => ?_) | refine forceK_of ?_ | refine forceBx_of ?_ | refine unG_old ?_ | refine unG_gv ?_ | refine Lit.read rfl ?_ | refine LitO.own rfl ?_ | refine FinVal.keep ?_ | refine FinAgg.keep ?_ | refine Final.mk rfl rfl | refine Final.mk ?_ rfl | refine Final.mk ?_ ?_ | refine FinalT.mk ?_ ?_ | refine FinalI.mk ?_ | refine FinalC.allA ?_ | refine ACall.scalA _ _ (eqStamp.big _ _ ?_) rfl ?_ | refine AQCall.mkA _ _ (fun hg => eqStamp.big _ _ ?_) rfl ?_ | refine AGCall.mkA _ _ (fun hg => eqStamp.big _ _ ?_) rfl ?_)
    | refine AV.bool_congr ?_ | refine AV.int_congr ?_ | refine AV.str_congr ?_ | refine AV.list_congr ?_ | with_reducible rfl | refine fr1 ?_ | refine fr2 ?_ ?_
  · rename_i h1
    rw [length_rows] at h1
    have := listSize_mem tStamp (List.mem_of_getElem? (tStamp_get (l := l) (i := i) (by omega)))
    rw [Int.toNat_natCast]; omega
  · rename_i h1 h2
    have h3 : ¬ l = m := fun e => of_decide_eq_false h2 (by rw [e])
    simp [h3]
  · rename_i h1 h2
    rw [length_rows] at h1
    rw [Int.toNat_natCast] at h2
    refine ⟨i + 1, ⟨by omega, ?_⟩, ?_, by omega⟩
    · rw [take_succ' default (by omega), take_succ' (l := m) default (by omega), hi.2, of_decide_eq_true h2]
    · repeat' first
        | exact trivial | refine Weak.mk ?_ ?_ ?_ ?_ (Or.inl (Nat.le_of_ble_eq_true rfl)) | refine Weak.mk ?_ ?_ ?_ ?_ (Or.inr ⟨(by repeat' first | exact trivial | exact Nat.le_of_ble_eq_true rfl | refine And.intro ?_ ?_), (by repeat' first | exact trivial | exact Nat.le_of_ble_eq_true rfl | refine And.intro ?_ ?_)⟩) | refine Weak.mk ?_ ?_ ?_ ?_ ?_ | refine And.intro ?_ ?_ | with_reducible rfl | exact Nat.le_of_ble_eq_true rfl | refine fr1 ?_ | refine fr2 ?_ ?_ | refine AV.int_congr ?_ | refine AV.bool_congr ?_ | refine AV.str_congr ?_ | refine AV.list_congr ?_ | refine AV.bsl_congr ?_ ?_ | (apply rfl)
      rw [wrap64 (by omega) (by omega)]; rfl
  · rename_i h1
    rw [length_rows] at h1
    have h2 := hi.2
    rw [List.take_of_length_le (by omega), List.take_of_length_le (by omega)] at h2
    simp [h2]
theorem markStampS.tn (l : List VStamp) (k : Nat) (hs : tStamps.size l ≤ 1099511627775) (hk : k + cn (.l 90 3 (l.map tStamp.q)) ≤ 1099511627775) :
    markStampS.Turn (gb (.l 90 3 (l.map tStamp.q)) 0) [gv (.l 90 3 (l.map tStamp.q)) 0, .val (.int .i64 k)] (.val (.int .i64 ((k + cn (.l 90 3 (l.map tStamp.q)) : Nat)))) (gb (mk (.l 90 3 (l.map tStamp.q)) k) 0) := by
  refine markStampS.ofT rfl rfl (by rw [length_gb, nb_mk]) ?_
  obtain ⟨cs, hcs⟩ : ∃ cs, cs = (l.map tStamp.q).flatten := ⟨_, rfl⟩
  have hlen : cs.length = l.length * 3 := by rw [hcs]; exact flat_len _ 3 tStamp.hq l
  have hc0 : ∀ i, i < l.length → cs[i * 3 + 0]? = some (.s (l.getD i default).1.1) := fun i hi => by rw [hcs]; exact cell_at tStamp.q 3 tStamp.hq hi rfl
  have hc1 : ∀ i, i < l.length → cs[i * 3 + 1]? = some (.l 9 1 ((l.getD i default).1.2.map Ty.str.q)) := fun i hi => by rw [hcs]; exact cell_at tStamp.q 3 tStamp.hq hi rfl
  have hc2 : ∀ i, i < l.length → cs[i * 3 + 2]? = some (.v (.int .i64 (l.getD i default).2)) := fun i hi => by rw [hcs]; exact cell_at tStamp.q 3 tStamp.hq hi rfl
  rw [gb_mk_l0, gb_l0, cn_l, gv, List.length_map, ← hcs]
  rw [cn_l, ← hcs] at hk
  clear hcs
  repeat' first
    | contradiction | exact trivial
    | (conv => whnf
       first | refine Need.mk (fun h => h) ?_ | refine Need.mk rfl ?_ | refine Need.mk ⟨rfl, Nat.le_of_ble_eq_true rfl⟩ ?_ | refine Need.mk (Nat.le_of_ble_eq_true rfl) ?_ | refine Need.fin ?_ | refine Need.mk ⟨rfl, by simp only [length_setAt, List.length_set, length_gvL, length_st, Int.toNat_natCast]; omega⟩ ?_ | refine Need.mk ?_ ?_ | refine Ix.strsF rfl ?_ | refine Ix.strs rfl ?_ ?_ | refine Cut.strs rfl ?_ ?_ | refine Ix.mapF (fun _ => rfl) ?_ | refine Ix.map (fun _ => rfl) ?_ ?_ | refine Cut.map (fun _ => rfl) ?_ ?_ | refine Fork.yes (by assumption) ?_ | refine Fork.no (by assumption) ?_ | refine Fork.decYes (by omega) ?_ | refine Fork.decNo (by omega) ?_ | refine Fork.dec (fun _ => ?_) (fun _ => ?_) | refine Fork.bne (fun _ => ?_) (fun _ => ?_) | refine Fork.beq (fun _ => ?_) (fun _ => ?_) | refine Fork.seq (fun _ => ?_) (fun _ => ?_) | refine Fork.sne (fun _ => ?_) (fun _ => ?_) | refine Fork.neg (fun _ => ?_) (fun _ => ?_) | refine Fork.mk (fun _ => ?_) (fun _ => ?_) | refine HAlt.mk ?_ ?_ | apply HJoin.mk3 | exact HEnd.mk rfl rfl rfl | refine HEnd.mk ?_ ?_ ?_ | refine Round.mk ?_ | refine NilQ.mk (fun b hb => ?_) | refine forceK_of ?_ | refine forceBx_of ?_ | refine unG_old ?_ | refine unG_gv ?_ | refine Lit.read rfl ?_ | refine LitO.own rfl ?_ | refine FinVal.keep ?_ | refine FinAgg.keep ?_ | refine Final.mk rfl rfl | refine Final.mk ?_ rfl | refine Final.mk ?_ ?_ | refine FinalT.mk ?_ ?_ | refine FinalI.mk ?_ | refine FinalC.allA ?_)
    | refine AV.bool_congr ?_ | refine AV.int_congr ?_ | refine AV.str_congr ?_ | refine AV.list_congr ?_ | with_reducible rfl | refine fr1 ?_ | refine fr2 ?_ ?_
  refine ALoop.mk Nat (fun i => ⟨[(0, .bsl 0 l.length), (1, .val (.int .i64 ((k + cnC (cs.take (i * 3)) : Nat)))), (5, .val (.int .i64 i))], .cells (.row 90 3) (gvL (st cs k (i * 3)) 1) :: gbL (st cs k (i * 3)) 1, []⟩) (fun i => i ≤ l.length) (fun i => l.length - i) ⟨0, Nat.zero_le _, ?_⟩ (fun i hi => ?_)
  · refine weak_st ⟨rfl, ?_, rfl, trivial⟩ ?_ ?_ rfl ?_
    · rw [Nat.zero_mul]; rfl
    · rw [Nat.zero_mul, st_zero]
    · rw [Nat.zero_mul, st_zero]
    · rw [Nat.zero_mul, st_zero, List.length_cons]; exact Nat.le_refl _
  have hle := cn_take_le cs (i * 3)
  rw [tStamps_sz] at hs
  rcases Nat.lt_or_ge i l.length with hlt | hge
  rotate_left
  · have hiw : i * 3 = cs.length := by omega
    repeat' first
      | contradiction | exact trivial
      | (conv => whnf
         first | refine Need.mk (fun h => h) ?_ | refine Need.mk rfl ?_ | refine Need.mk ⟨rfl, Nat.le_of_ble_eq_true rfl⟩ ?_ | refine Need.mk (Nat.le_of_ble_eq_true rfl) ?_ | refine Need.fin ?_ | refine Need.mk ⟨rfl, by simp only [length_setAt, List.length_set, length_gvL, length_st, Int.toNat_natCast]; omega⟩ ?_ | refine Need.mk ?_ ?_ | refine Ix.strsF rfl ?_ | refine Ix.strs rfl ?_ ?_ | refine Cut.strs rfl ?_ ?_ | refine Ix.mapF (fun _ => rfl) ?_ | refine Ix.map (fun _ => rfl) ?_ ?_ | refine Cut.map (fun _ => rfl) ?_ ?_ | refine Fork.yes (by assumption) ?_ | refine Fork.no (by assumption) ?_ | refine Fork.decYes (by omega) ?_ | refine Fork.decNo (by omega) ?_ | refine Fork.dec (fun _ => ?_) (fun _ => ?_) | refine Fork.bne (fun _ => ?_) (fun _ => ?_) | refine Fork.beq (fun _ => ?_) (fun _ => ?_) | refine Fork.seq (fun _ => ?_) (fun _ => ?_) | refine Fork.sne (fun _ => ?_) (fun _ => ?_) | refine Fork.neg (fun _ => ?_) (fun _ => ?_) | refine Fork.mk (fun _ => ?_) (fun _ => ?_) | refine HAlt.mk ?_ ?_ | apply HJoin.mk3 | exact HEnd.mk rfl rfl rfl | refine HEnd.mk ?_ ?_ ?_ | refine Round.mk ?_ | refine NilQ.mk (fun b hb => ?_) | refine forceK_of ?_ | refine forceBx_of ?_ | refine unG_old ?_ | refine unG_gv ?_ | refine Lit.read rfl ?_ | refine LitO.own rfl ?_ | refine FinVal.keep ?_ | refine FinAgg.keep ?_ | refine Final.mk rfl rfl | refine Final.mk ?_ rfl | refine Final.mk ?_ ?_ | refine FinalT.mk ?_ ?_ | refine FinalI.mk ?_ | refine FinalC.allA ?_)
      | refine AV.bool_congr ?_ | refine AV.int_congr ?_ | refine AV.str_congr ?_ | refine AV.list_congr ?_ | with_reducible rfl | refine fr1 ?_ | refine fr2 ?_ ?_
    · rw [hiw, List.take_length]
    · rw [hiw, st_all cs k rfl]; exact take_all (by rw [List.length_cons, List.length_cons, length_gbL, length_gbL, nbL_mkC]; exact Nat.le_refl _)
  have hi1 : (i + 1) * 3 = i * 3 + 3 := by omega
  have hsz := tStamp_le hlt
  have hz43 := tStamp_size (l.getD i default)
  have hz44 := tFact_size (l.getD i default).1
  repeat' first
    | contradiction | exact trivial
    | (conv => whnf
       first | refine Need.mk (fun h => h) ?_ | refine Need.mk rfl ?_ | refine Need.mk ⟨rfl, Nat.le_of_ble_eq_true rfl⟩ ?_ | refine Need.mk (Nat.le_of_ble_eq_true rfl) ?_ | refine Need.fin ?_ | refine Need.mk ⟨rfl, by simp only [length_setAt, List.length_set, length_gvL, length_st, Int.toNat_natCast]; omega⟩ ?_ | refine Need.mk ?_ ?_ | refine Ix.strsF rfl ?_ | refine Ix.strs rfl ?_ ?_ | refine Cut.strs rfl ?_ ?_ | refine Ix.mapF (fun _ => rfl) ?_ | refine Ix.map (fun _ => rfl) ?_ ?_ | refine Cut.map (fun _ => rfl) ?_ ?_ | refine Fork.yes (by assumption) ?_ | refine Fork.no (by assumption) ?_ | refine Fork.decYes (by omega) ?_ | refine Fork.decNo (by omega) ?_ | refine Fork.dec (fun _ => ?_) (fun _ => ?_) | refine Fork.bne (fun _ => ?_) (fun _ => ?_) | refine Fork.beq (fun _ => ?_) (fun _ => ?_) | refine Fork.seq (fun _ => ?_) (fun _ => ?_) | refine Fork.sne (fun _ => ?_) (fun _ => ?_) | refine Fork.neg (fun _ => ?_) (fun _ => ?_) | refine Fork.mk (fun _ => ?_) (fun _ => ?_) | refine HAlt.mk ?_ ?_ | apply HJoin.mk3 | exact HEnd.mk rfl rfl rfl | refine HEnd.mk ?_ ?_ ?_ | refine Round.mk ?_ | refine NilQ.mk (fun b hb => ?_) | refine forceK_of ?_ | refine forceBx_of ?_ | refine unG_old ?_ | refine unG_gv ?_ | refine Lit.read rfl ?_ | refine LitO.own rfl ?_ | refine FinVal.keep ?_ | refine FinAgg.keep ?_ | refine Final.mk rfl rfl | refine Final.mk ?_ rfl | refine Final.mk ?_ ?_ | refine FinalT.mk ?_ ?_ | refine FinalI.mk ?_ | refine FinalC.allA ?_)
    | refine AV.bool_congr ?_ | refine AV.int_congr ?_ | refine AV.str_congr ?_ | refine AV.list_congr ?_ | with_reducible rfl | refine fr1 ?_ | refine fr2 ?_ ?_
  have l0 := cn_take_le cs (i * 3 + 1)
  have n0 : cnC (cs.take (i * 3 + 1)) = cnC (cs.take (i * 3)) + 1 := cn_succ (hc0 i hlt)
  have w0 : IntKind.i64.wrap (((k + cnC (cs.take (i * 3)) : Nat) : Int) + 1) = ((k + cnC (cs.take (i * 3 + 1)) : Nat) : Int) := by rw [wrap64 (by omega) (by omega)]; omega
  have b0 : gbL (st cs k (i * 3 + 1)) 1 = gbL (st cs k (i * 3)) 1 := gbL_st k 1 (hc0 i hlt) rfl
  have g0 : gvL (st cs k (i * 3 + 1)) 1 = (gvL (st cs k (i * 3)) 1).set (i * 3) (.str (markF (k + cnC (cs.take (i * 3))))) := gvL_st k 1 (hc0 i hlt)
  conv => whnf
  refine ACall.scal [.val (.int .i64 ((k + cnC (cs.take (i * 3)) : Nat)))] _ (markText.ret (k + cnC (cs.take (i * 3))) (by omega)) rfl (.cons (SeesB.of0 (by exact Sees0.val _)) .nil) ?_
  repeat' first
    | contradiction | exact trivial
    | (conv => whnf
       first | refine Need.mk (fun h => h) ?_ | refine Need.mk rfl ?_ | refine Need.mk ⟨rfl, Nat.le_of_ble_eq_true rfl⟩ ?_ | refine Need.mk (Nat.le_of_ble_eq_true rfl) ?_ | refine Need.fin ?_ | refine Need.mk ⟨rfl, by simp only [length_setAt, List.length_set, length_gvL, length_st, Int.toNat_natCast]; omega⟩ ?_ | refine Need.mk ?_ ?_ | refine Ix.strsF rfl ?_ | refine Ix.strs rfl ?_ ?_ | refine Cut.strs rfl ?_ ?_ | refine Ix.mapF (fun _ => rfl) ?_ | refine Ix.map (fun _ => rfl) ?_ ?_ | refine Cut.map (fun _ => rfl) ?_ ?_ | refine Fork.yes (by assumption) ?_ | refine Fork.no (by assumption) ?_ | refine Fork.decYes (by omega) ?_ | refine Fork.decNo (by omega) ?_ | refine Fork.dec (fun _ => ?_) (fun _ => ?_) | refine Fork.bne (fun _ => ?_) (fun _ => ?_) | refine Fork.beq (fun _ => ?_) (fun _ => ?_) | refine Fork.seq (fun _ => ?_) (fun _ => ?_) | refine Fork.sne (fun _ => ?_) (fun _ => ?_) | refine Fork.neg (fun _ => ?_) (fun _ => ?_) | refine Fork.mk (fun _ => ?_) (fun _ => ?_) | refine HAlt.mk ?_ ?_ | apply HJoin.mk3 | exact HEnd.mk rfl rfl rfl | refine HEnd.mk ?_ ?_ ?_ | refine Round.mk ?_ | refine NilQ.mk (fun b hb => ?_) | refine forceK_of ?_ | refine forceBx_of ?_ | refine unG_old ?_ | refine unG_gv ?_ | refine Lit.read rfl ?_ | refine LitO.own rfl ?_ | refine FinVal.keep ?_ | refine FinAgg.keep ?_ | refine Final.mk rfl rfl | refine Final.mk ?_ rfl | refine Final.mk ?_ ?_ | refine FinalT.mk ?_ ?_ | refine FinalI.mk ?_ | refine FinalC.allA ?_)
    | refine AV.bool_congr ?_ | refine AV.int_congr ?_ | refine AV.str_congr ?_ | refine AV.list_congr ?_ | with_reducible rfl | refine fr1 ?_ | refine fr2 ?_ ?_
  have l1 := cn_take_le cs (i * 3 + 2)
  have n1 : cnC (cs.take (i * 3 + 2)) = cnC (cs.take (i * 3 + 1)) + cn (.l 9 1 ((l.getD i default).1.2.map Ty.str.q)) := cn_succ (hc1 i hlt)
  have g1 : gvL (st cs k (i * 3 + 2)) 1 = gvL (st cs k (i * 3 + 1)) 1 := gvL_stL k 1 (hc1 i hlt)
  have t1 : markStringS.Turn (gb (.l 9 1 ((l.getD i default).1.2.map Ty.str.q)) 0) [gv (.l 9 1 ((l.getD i default).1.2.map Ty.str.q)) 0, .val (.int .i64 ((k + cnC (cs.take (i * 3 + 1)) : Nat)))] (.val (.int .i64 ((k + cnC (cs.take (i * 3 + 2)) : Nat)))) (gb (mk (.l 9 1 ((l.getD i default).1.2.map Ty.str.q)) (k + cnC (cs.take (i * 3 + 1)))) 0) := by
    have h := markStringS.tn (l.getD i default).1.2 (k + cnC (cs.take (i * 3 + 1))) (by omega) (by omega)
    rw [Nat.add_assoc, ← n1] at h; exact h
  have d1 : ((gvL (st cs k (i * 3)) 1).set (i * 3) (.str (markF (k + cnC (cs.take (i * 3)))))).drop (i * 3 + 1) = gv (.l 9 1 ((l.getD i default).1.2.map Ty.str.q)) (1 + nbL (cs.take (i * 3 + 1))) :: gvL (cs.drop (i * 3 + 1 + 1)) (1 + nbL (cs.take (i * 3 + 1)) + nb (.l 9 1 ((l.getD i default).1.2.map Ty.str.q))) := by
    have h := ld_st k 1 (hc1 i hlt)
    try simp only [Nat.add_zero] at h
    rw [g0] at h
    exact h
  conv => whnf
  refine takeAV_one (n := 1) _ _ d1 ?_
  conv => whnf
  refine ACall.turn' (.cells (.row 90 3) ((gvL (st cs k (i * 3)) 1).set (i * 3) (.str (markF (k + cnC (cs.take (i * 3)))))) :: gbL (st cs k (i * 3 + 2)) 1) [gv (.l 9 1 ((l.getD i default).1.2.map Ty.str.q)) 0, .val (.int .i64 ((k + cnC (cs.take (i * 3 + 1)) : Nat)))] (.l 9 1 ((l.getD i default).1.2.map Ty.str.q)) (mk (.l 9 1 ((l.getD i default).1.2.map Ty.str.q)) (k + cnC (cs.take (i * 3 + 1)))) _ (.cells (.row 90 3) ((gvL (st cs k (i * 3)) 1).set (i * 3) (.str (markF (k + cnC (cs.take (i * 3)))))) :: gbL (mkC (cs.take (i * 3 + 1)) k) 1) (gbL (cs.drop (i * 3 + 1 + 1)) (1 + nbL (cs.take (i * 3 + 1)) + nb (.l 9 1 ((l.getD i default).1.2.map Ty.str.q)))) t1 rfl ?_ (nb_mk _ _) (.cons (.inl ⟨by rw [pre_st]; rfl, rfl⟩) (.cons (.inr (by rw [w0]; exact Sees0.val _)) .nil)) ?_ ?_
  · rw [← b0]; exact bx_st k (hc1 i hlt) _
  · exact bx_st' k (hc1 i hlt) _
  repeat' first
    | contradiction | exact trivial
    | (conv => whnf
       first | refine Need.mk (fun h => h) ?_ | refine Need.mk rfl ?_ | refine Need.mk ⟨rfl, Nat.le_of_ble_eq_true rfl⟩ ?_ | refine Need.mk (Nat.le_of_ble_eq_true rfl) ?_ | refine Need.fin ?_ | refine Need.mk ⟨rfl, by simp only [length_setAt, List.length_set, length_gvL, length_st, Int.toNat_natCast]; omega⟩ ?_ | refine Need.mk ?_ ?_ | refine Ix.strsF rfl ?_ | refine Ix.strs rfl ?_ ?_ | refine Cut.strs rfl ?_ ?_ | refine Ix.mapF (fun _ => rfl) ?_ | refine Ix.map (fun _ => rfl) ?_ ?_ | refine Cut.map (fun _ => rfl) ?_ ?_ | refine Fork.yes (by assumption) ?_ | refine Fork.no (by assumption) ?_ | refine Fork.decYes (by omega) ?_ | refine Fork.decNo (by omega) ?_ | refine Fork.dec (fun _ => ?_) (fun _ => ?_) | refine Fork.bne (fun _ => ?_) (fun _ => ?_) | refine Fork.beq (fun _ => ?_) (fun _ => ?_) | refine Fork.seq (fun _ => ?_) (fun _ => ?_) | refine Fork.sne (fun _ => ?_) (fun _ => ?_) | refine Fork.neg (fun _ => ?_) (fun _ => ?_) | refine Fork.mk (fun _ => ?_) (fun _ => ?_) | refine HAlt.mk ?_ ?_ | apply HJoin.mk3 | exact HEnd.mk rfl rfl rfl | refine HEnd.mk ?_ ?_ ?_ | refine Round.mk ?_ | refine NilQ.mk (fun b hb => ?_) | refine forceK_of ?_ | refine forceBx_of ?_ | refine unG_old ?_ | refine unG_gv ?_ | refine Lit.read rfl ?_ | refine LitO.own rfl ?_ | refine FinVal.keep ?_ | refine FinAgg.keep ?_ | refine Final.mk rfl rfl | refine Final.mk ?_ rfl | refine Final.mk ?_ ?_ | refine FinalT.mk ?_ ?_ | refine FinalI.mk ?_ | refine FinalC.allA ?_)
    | refine AV.bool_congr ?_ | refine AV.int_congr ?_ | refine AV.str_congr ?_ | refine AV.list_congr ?_ | with_reducible rfl | refine fr1 ?_ | refine fr2 ?_ ?_
  have l2 := cn_take_le cs (i * 3 + 3)
  have n2 : cnC (cs.take (i * 3 + 3)) = cnC (cs.take (i * 3 + 2)) + 1 := cn_succ (hc2 i hlt)
  have w2 : IntKind.i64.wrap (((k + cnC (cs.take (i * 3 + 2)) : Nat) : Int) + 1) = ((k + cnC (cs.take (i * 3 + 3)) : Nat) : Int) := by rw [wrap64 (by omega) (by omega)]; omega
  have b2 : gbL (st cs k (i * 3 + 3)) 1 = gbL (st cs k (i * 3 + 2)) 1 := gbL_st k 1 (hc2 i hlt) rfl
  have g2 : gvL (st cs k (i * 3 + 3)) 1 = (gvL (st cs k (i * 3 + 2)) 1).set (i * 3 + 2) (.val (.int .i64 (((k + cnC (cs.take (i * 3 + 2)) : Nat) : Int)))) := gvL_st k 1 (hc2 i hlt)
  refine ⟨i + 1, by omega, weak_st ⟨rfl, AV.int_congr ?_, AV.int_congr ?_, trivial⟩ (congrArg (ABox.cells (.row 90 3)) ?_) ?_ rfl ?_, by omega⟩
  · rw [hi1]; exact w2
  · rw [wrap64 (by omega) (by omega)]; rfl
  · rw [hi1, g2, g1, g0]
    try rfl
  · rw [hi1, b2]
  · simp only [hi1, List.length_cons, length_gbL, nbL_st, Nat.le_refl]
end Go.Proofs.Ytplfkocigmnpmaa
namespace Go.Proofs.Ytplfkocigmnpmaa
open Abs
def sFactsIn.code : ACode := (.seq (.region false [s 2 (.mv (.const (.slice none 0 0)))]) (.seq (.region false [s 5 (.bslice 44 2 true []), s 3 (.mv (t 5))]) (.seq (.seq (.region false [s 4 (.mv (.const (.int .i64 0)))]) (.block 0 (.loop (.seq (.seq (.region false [s 6 (.mv (t 4)), s 7 (.mv (t 0)), s 8 (.len false (t 7)), s 9 (.bin .lss (t 6) (t 8))]) (.cond (t 9) .skip (.exit 0))) (.seq (.block 1 (.region false [s 12 (.mv (t 3)), s 13 (.mv (t 0)), s 14 (.mv (t 4)), s 15 (.iadr 3 (t 13) (t 14)), s 16 (.fadr 0 (t 15)), s 17 (.load true 2 (t 16)), s 18 (.call 57 [(t 17)]), s 19 (.bslice 44 2 false [(t 18)]), s 20 (.append 44 2 40 (t 12) (t 19)), s 3 (.mv (t 20))])) (.region false [s 10 (.mv (t 4)), s 11 (.bin .add (t 10) (.const (.int .i64 1))), s 4 (.mv (t 11))])))))) (.seq (.region false [s 21 (.mv (t 3)), s 2 (.mv (t 21))]) .ret))))
def sFactsIn.keep : List Nat := [0, 2, 3, 4]
def sFactsIn.res : List RRes := [.tmp 2]
theorem sFactsIn.of {mo : Bool} {args : List AV} {r : AV} {frs : Fr} (hn : Nat.ble args.length Try.f15.ntmps = true) (h : aCode (Kn mo Try.prog) sFactsIn.keep 0 sFactsIn.code (doneK sFactsIn.res r frs) ⟨argEnv 0 args, [], []⟩) : Abs.Ret mo Try.prog 15 args r frs :=
  Abs.Ret.of_ir Try.func15 rfl (by kernel_rfl) (Nat.le_of_ble_eq_true hn) (by kernel_rfl) (by kernel_rfl) h
abbrev sFactsIn.Own (args : List AV) (x : Tr) : Prop := Abs.Own true Try.prog 15 args x
abbrev sFactsIn.Ret (args : List AV) (r : AV) (frs : Fr) : Prop := Abs.Ret true Try.prog 15 args r frs
def pFactsIn.code : ACode := (.seq (.region false [s 2 (.mv (.const (.slice none 0 0)))]) (.seq (.region false [s 6 (.mv (t 0)), s 7 (.len false (t 6)), s 8 (.make 44 [(.string (.mk (.mk []))), (.slice none 0 0)] 2 40 (t 7)), s 3 (.mv (t 8))]) (.seq (.seq (.region false [s 9 (.mv (t 0)), s 10 (.len false (t 9)), s 11 (.mv (.const (.int .i64 0)))]) (.block 0 (.loop (.seq (.region false [s 12 (.bin .lss (t 11) (t 10))]) (.seq (.cond (t 12) .skip (.exit 0)) (.seq (.block 1 (.seq (.region false [s 13 (.mv (t 11)), s 14 (.iadr 3 (t 9) (t 11)), s 15 (.load true 3 (t 14)), s 5 (.alloc [(.string (.mk (.mk []))), (.slice none 0 0), (.int .i64 (.ofNat 0))]), s 4 (.mv (t 13)), ⟨none, none, (.store 3 (t 5) (t 15))⟩]) (.region false [s 16 (.mv (t 3)), s 17 (.mv (t 4)), s 18 (.fadr 0 (t 5)), s 19 (.load true 2 (t 18)), s 20 (.call 59 [(t 19)]), s 21 (.iadr 2 (t 16) (t 17)), ⟨none, none, (.store 2 (t 21) (t 20))⟩]))) (.region false [s 22 (.bin .add (t 11) (.const (.int .i64 1))), s 11 (.mv (t 22))]))))))) (.seq (.region false [s 23 (.mv (t 3)), s 2 (.mv (t 23))]) .ret))))
def pFactsIn.keep : List Nat := [0, 2, 3, 4, 5, 9, 10, 11, 12]
def pFactsIn.res : List RRes := [.tmp 2]
theorem pFactsIn.of {mo : Bool} {args : List AV} {r : AV} {frs : Fr} (hn : Nat.ble args.length Try.f17.ntmps = true) (h : aCode (Kn mo Try.prog) pFactsIn.keep 0 pFactsIn.code (doneK pFactsIn.res r frs) ⟨argEnv 0 args, [], []⟩) : Abs.Ret mo Try.prog 17 args r frs :=
  Abs.Ret.of_ir Try.func17 rfl (by kernel_rfl) (Nat.le_of_ble_eq_true hn) (by kernel_rfl) (by kernel_rfl) h
abbrev pFactsIn.Own (args : List AV) (x : Tr) : Prop := Abs.Own true Try.prog 17 args x
abbrev pFactsIn.Ret (args : List AV) (r : AV) (frs : Fr) : Prop := Abs.Ret true Try.prog 17 args r frs
def sIsMemory.code : ACode := (.seq (.region false [s 2 (.mv (.const (.bool false)))]) (.seq (.seq (.region false [s 3 (.mv (.const (.int .i64 0)))]) (.block 0 (.loop (.seq (.seq (.region false [s 5 (.mv (t 3)), s 6 (.mv (t 0)), s 7 (.len false (t 6)), s 8 (.bin .lss (t 5) (t 7))]) (.cond (t 8) .skip (.exit 0))) (.seq (.block 1 (.seq (.seq (.region false [s 11 (.mv (t 0)), s 12 (.mv (t 3)), s 13 (.iadr 3 (t 11) (t 12)), s 14 (.fadr 2 (t 13)), s 15 (.load false 1 (t 14)), s 16 (.call 64 [(t 15), (.const (.int .i64 1)), (.const (.int .i64 200))]), s 17 (.not (t 16))]) (.cond (t 17) (.seq (.region false [s 2 (.mv (.const (.bool false)))]) .ret) .skip)) (.seq (.region false [s 4 (.mv (.const (.int .i64 0)))]) (.block 2 (.loop (.seq (.seq (.region false [s 18 (.mv (t 4)), s 19 (.mv (t 3)), s 20 (.bin .lss (t 18) (t 19))]) (.cond (t 20) .skip (.exit 2))) (.seq (.block 3 (.seq (.region true [s 23 (.mv (t 0)), s 24 (.mv (t 4)), s 25 (.iadr 3 (t 23) (t 24)), s 26 (.fadr 2 (t 25)), s 27 (.load false 1 (t 26)), s 28 (.mv (t 0)), s 29 (.mv (t 3)), s 30 (.iadr 3 (t 28) (t 29)), s 31 (.fadr 2 (t 30)), s 32 (.load false 1 (t 31)), s 33 (.bin .eql (t 27) (t 32))]) (.cond (t 33) (.seq (.region false [s 2 (.mv (.const (.bool false)))]) .ret) .skip))) (.region false [s 21 (.mv (t 4)), s 22 (.bin .add (t 21) (.const (.int .i64 1))), s 4 (.mv (t 22))])))))))) (.region false [s 9 (.mv (t 3)), s 10 (.bin .add (t 9) (.const (.int .i64 1))), s 3 (.mv (t 10))])))))) (.seq (.region false [s 34 (.mv (t 0)), s 35 (.call 15 [(t 34)]), s 36 (.call 65 [(t 35)]), s 2 (.mv (t 36))]) .ret)))
def sIsMemory.keep : List Nat := [0, 2, 3, 4]
def sIsMemory.res : List RRes := [.tmp 2]
theorem sIsMemory.ofS {mo : Bool} {args : List AV} {r : AV} (hr : isScalR r = true) (hn : Nat.ble args.length Try.f23.ntmps = true) (h : aCode (Kn mo Try.prog) sIsMemory.keep 0 sIsMemory.code (doneS sIsMemory.res r) ⟨argEnv 0 args, [], []⟩) : Abs.Ret mo Try.prog 23 args r [] :=
  Abs.Ret.of_irS hr Try.func23 rfl (by kernel_rfl) (Nat.le_of_ble_eq_true hn) (by kernel_rfl) (by kernel_rfl) h
abbrev sIsMemory.Ret (args : List AV) (r : AV) (frs : Fr) : Prop := Abs.Ret true Try.prog 23 args r frs
def pIsMemory.code : ACode := (.seq (.region false [s 2 (.mv (.const (.bool false)))]) (.seq (.seq (.region false [s 6 (.mv (t 0)), s 7 (.call 17 [(t 6)]), s 8 (.call 66 [(t 7)]), s 9 (.not (t 8))]) (.cond (t 9) (.seq (.region false [s 2 (.mv (.const (.bool false)))]) .ret) .skip)) (.seq (.region false [s 10 (.vmap (.kInt .i64) .kBool), s 3 (.mv (t 10))]) (.seq (.seq (.region false [s 11 (.mv (t 0)), s 12 (.len false (t 11)), s 13 (.mv (.const (.int .i64 0)))]) (.block 0 (.loop (.seq (.region false [s 14 (.bin .lss (t 13) (t 12))]) (.seq (.cond (t 14) .skip (.exit 0)) (.seq (.block 1 (.seq (.region false [s 15 (.iadr 3 (t 11) (t 13)), s 16 (.load true 3 (t 15)), s 5 (.alloc [(.string (.mk (.mk []))), (.slice none 0 0), (.int .i64 (.ofNat 0))]), ⟨none, none, (.store 3 (t 5) (t 16))⟩]) (.seq (.seq (.region false [s 17 (.fadr 2 (t 5)), s 18 (.load false 1 (t 17)), s 19 (.bin .lss (t 18) (.const (.int .i64 1))), s 20 (.mv (t 19)), g 20 false 21 (.fadr 2 (t 5)), g 20 false 22 (.load false 1 (t 21)), g 20 false 23 (.bin .gtr (t 22) (.const (.int .i64 200))), s 24 (.or (t 20) (t 23)), s 25 (.mv (t 24)), g 25 false 26 (.mv (t 3)), g 25 false 27 (.fadr 2 (t 5)), g 25 false 28 (.load false 1 (t 27)), g 25 false 29 (.vlook false (.kInt .i64) .kBool (t 26) (t 28)), s 30 (.or (t 25) (t 29))]) (.cond (t 30) (.seq (.region false [s 2 (.mv (.const (.bool false)))]) .ret) .skip)) (.region false [s 31 (.mv (t 3)), s 32 (.fadr 2 (t 5)), s 33 (.load false 1 (t 32)), ⟨none, none, (.vput (.kInt .i64) .kBool (t 31) (t 33) (.const (.bool true)))⟩])))) (.region false [s 34 (.bin .add (t 13) (.const (.int .i64 1))), s 13 (.mv (t 34))]))))))) (.seq (.region false [s 2 (.mv (.const (.bool true)))]) .ret)))))
def pIsMemory.keep : List Nat := [0, 2, 3, 5, 11, 12, 13, 14]
def pIsMemory.res : List RRes := [.tmp 2]
theorem pIsMemory.ofS {mo : Bool} {args : List AV} {r : AV} (hr : isScalR r = true) (hn : Nat.ble args.length Try.f24.ntmps = true) (h : aCode (Kn mo Try.prog) pIsMemory.keep 0 pIsMemory.code (doneS pIsMemory.res r) ⟨argEnv 0 args, [], []⟩) : Abs.Ret mo Try.prog 24 args r [] :=
  Abs.Ret.of_irS hr Try.func24 rfl (by kernel_rfl) (Nat.le_of_ble_eq_true hn) (by kernel_rfl) (by kernel_rfl) h
abbrev pIsMemory.Ret (args : List AV) (r : AV) (frs : Fr) : Prop := Abs.Ret true Try.prog 24 args r frs
def sTimeOf.code : ACode := (.seq (.region false [s 3 (.box (t 1)), s 4 (.mv (.const (.int .i64 0)))]) (.seq (.seq (.region false [s 5 (.mv (.const (.int .i64 0)))]) (.block 0 (.loop (.seq (.seq (.region false [s 6 (.mv (t 5)), s 7 (.mv (t 0)), s 8 (.len false (t 7)), s 9 (.bin .lss (t 6) (t 8))]) (.cond (t 9) .skip (.exit 0))) (.seq (.block 1 (.seq (.region true [s 12 (.mv (t 0)), s 13 (.mv (t 5)), s 14 (.iadr 3 (t 12) (t 13)), s 15 (.fadr 0 (t 14)), s 16 (.load true 2 (t 15)), s 17 (.load true 2 (t 3)), s 18 (.call 68 [(t 16), (t 17)])]) (.cond (t 18) (.seq (.region false [s 19 (.mv (t 0)), s 20 (.mv (t 5)), s 21 (.iadr 3 (t 19) (t 20)), s 22 (.fadr 2 (t 21)), s 23 (.load false 1 (t 22)), s 4 (.mv (t 23))]) .ret) .skip))) (.region false [s 10 (.mv (t 5)), s 11 (.bin .add (t 10) (.const (.int .i64 1))), s 5 (.mv (t 11))])))))) (.seq (.region false [s 4 (.mv (.const (.int .i64 0)))]) .ret)))
def sTimeOf.keep : List Nat := [0, 1, 3, 4, 5]
def sTimeOf.res : List RRes := [.tmp 4]
theorem sTimeOf.ofS {mo : Bool} {args : List AV} {r : AV} (hr : isScalR r = true) (hn : Nat.ble args.length Try.f26.ntmps = true) (h : aCode (Kn mo Try.prog) sTimeOf.keep 0 sTimeOf.code (doneS sTimeOf.res r) ⟨argEnv 0 args, [], []⟩) : Abs.Ret mo Try.prog 26 args r [] :=
  Abs.Ret.of_irS hr Try.func26 rfl (by kernel_rfl) (Nat.le_of_ble_eq_true hn) (by kernel_rfl) (by kernel_rfl) h
abbrev sTimeOf.Ret (args : List AV) (r : AV) (frs : Fr) : Prop := Abs.Ret true Try.prog 26 args r frs
def pTimeOf.code : ACode := (.seq (.region false [s 3 (.box (t 1)), s 4 (.mv (.const (.int .i64 0)))]) (.seq (.seq (.region false [s 7 (.mv (t 0)), s 8 (.len false (t 7)), s 9 (.mv (.const (.int .i64 0)))]) (.block 0 (.loop (.seq (.region false [s 10 (.bin .lss (t 9) (t 8))]) (.seq (.cond (t 10) .skip (.exit 0)) (.seq (.block 1 (.seq (.region false [s 11 (.iadr 3 (t 7) (t 9)), s 12 (.load true 3 (t 11)), s 6 (.alloc [(.string (.mk (.mk []))), (.slice none 0 0), (.int .i64 (.ofNat 0))]), ⟨none, none, (.store 3 (t 6) (t 12))⟩]) (.seq (.region false [s 13 (.fadr 0 (t 6)), s 14 (.load true 2 (t 13)), s 15 (.load true 2 (t 3)), s 16 (.call 70 [(t 14), (t 15)])]) (.cond (t 16) (.seq (.region false [s 17 (.fadr 2 (t 6)), s 18 (.load false 1 (t 17)), s 4 (.mv (t 18))]) .ret) .skip)))) (.region false [s 19 (.bin .add (t 9) (.const (.int .i64 1))), s 9 (.mv (t 19))]))))))) (.seq (.region false [s 4 (.mv (.const (.int .i64 0)))]) .ret)))
def pTimeOf.keep : List Nat := [0, 1, 3, 4, 6, 7, 8, 9, 10]
def pTimeOf.res : List RRes := [.tmp 4]
theorem pTimeOf.ofS {mo : Bool} {args : List AV} {r : AV} (hr : isScalR r = true) (hn : Nat.ble args.length Try.f28.ntmps = true) (h : aCode (Kn mo Try.prog) pTimeOf.keep 0 pTimeOf.code (doneS pTimeOf.res r) ⟨argEnv 0 args, [], []⟩) : Abs.Ret mo Try.prog 28 args r [] :=
  Abs.Ret.of_irS hr Try.func28 rfl (by kernel_rfl) (Nat.le_of_ble_eq_true hn) (by kernel_rfl) (by kernel_rfl) h
abbrev pTimeOf.Ret (args : List AV) (r : AV) (frs : Fr) : Prop := Abs.Ret true Try.prog 28 args r frs
def sTimesOf.code : ACode := (.seq (.region false [s 4 (.mv (.const (.slice none 0 0)))]) (.seq (.region false [s 7 (.bslice 3 1 true []), s 5 (.mv (t 7))]) (.seq (.seq (.region false [s 6 (.mv (.const (.int .i64 0)))]) (.block 0 (.loop (.seq (.seq (.region false [s 8 (.mv (t 6)), s 9 (.mv (t 1)), s 10 (.len false (t 9)), s 11 (.bin .lss (t 8) (t 10))]) (.cond (t 11) .skip (.exit 0))) (.seq (.block 1 (.region false [s 14 (.mv (t 5)), s 15 (.mv (t 0)), s 16 (.mv (t 1)), s 17 (.mv (t 6)), s 18 (.iadr 2 (t 16) (t 17)), s 19 (.load true 2 (t 18)), s 20 (.call 26 [(t 15), (t 19)]), s 21 (.bslice 3 1 false [(t 20)]), s 22 (.append 3 1 8 (t 14) (t 21)), s 5 (.mv (t 22))])) (.region false [s 12 (.mv (t 6)), s 13 (.bin .add (t 12) (.const (.int .i64 1))), s 6 (.mv (t 13))])))))) (.seq (.region false [s 23 (.mv (t 5)), s 4 (.mv (t 23))]) .ret))))
def sTimesOf.keep : List Nat := [0, 1, 4, 5, 6]
def sTimesOf.res : List RRes := [.tmp 4]
theorem sTimesOf.of {mo : Bool} {args : List AV} {r : AV} {frs : Fr} (hn : Nat.ble args.length Try.f31.ntmps = true) (h : aCode (Kn mo Try.prog) sTimesOf.keep 0 sTimesOf.code (doneK sTimesOf.res r frs) ⟨argEnv 0 args, [], []⟩) : Abs.Ret mo Try.prog 31 args r frs :=
  Abs.Ret.of_ir Try.func31 rfl (by kernel_rfl) (Nat.le_of_ble_eq_true hn) (by kernel_rfl) (by kernel_rfl) h
abbrev sTimesOf.Own (args : List AV) (x : Tr) : Prop := Abs.Own true Try.prog 31 args x
abbrev sTimesOf.Ret (args : List AV) (r : AV) (frs : Fr) : Prop := Abs.Ret true Try.prog 31 args r frs
def pTimesOf.code : ACode := (.seq (.region false [s 4 (.mv (.const (.slice none 0 0)))]) (.seq (.region false [s 8 (.mv (t 1)), s 9 (.len false (t 8)), s 10 (.make 3 [(.int .i64 (.ofNat 0))] 1 8 (t 9)), s 5 (.mv (t 10))]) (.seq (.seq (.region false [s 11 (.mv (t 1)), s 12 (.len false (t 11)), s 13 (.mv (.const (.int .i64 0)))]) (.block 0 (.loop (.seq (.region false [s 14 (.bin .lss (t 13) (t 12))]) (.seq (.cond (t 14) .skip (.exit 0)) (.seq (.block 1 (.seq (.region false [s 15 (.mv (t 13)), s 16 (.iadr 2 (t 11) (t 13)), s 17 (.load true 2 (t 16)), s 7 (.alloc [(.string (.mk (.mk []))), (.slice none 0 0)]), s 6 (.mv (t 15)), ⟨none, none, (.store 2 (t 7) (t 17))⟩]) (.region false [s 18 (.mv (t 5)), s 19 (.mv (t 6)), s 20 (.mv (t 0)), s 21 (.load true 2 (t 7)), s 22 (.call 28 [(t 20), (t 21)]), s 23 (.iadr 1 (t 18) (t 19)), ⟨none, none, (.store 1 (t 23) (t 22))⟩]))) (.region false [s 24 (.bin .add (t 13) (.const (.int .i64 1))), s 13 (.mv (t 24))]))))))) (.seq (.region false [s 25 (.mv (t 5)), s 4 (.mv (t 25))]) .ret))))
def pTimesOf.keep : List Nat := [0, 1, 4, 5, 6, 7, 11, 12, 13, 14]
def pTimesOf.res : List RRes := [.tmp 4]
theorem pTimesOf.of {mo : Bool} {args : List AV} {r : AV} {frs : Fr} (hn : Nat.ble args.length Try.f33.ntmps = true) (h : aCode (Kn mo Try.prog) pTimesOf.keep 0 pTimesOf.code (doneK pTimesOf.res r frs) ⟨argEnv 0 args, [], []⟩) : Abs.Ret mo Try.prog 33 args r frs :=
  Abs.Ret.of_ir Try.func33 rfl (by kernel_rfl) (Nat.le_of_ble_eq_true hn) (by kernel_rfl) (by kernel_rfl) h
abbrev pTimesOf.Own (args : List AV) (x : Tr) : Prop := Abs.Own true Try.prog 33 args x
abbrev pTimesOf.Ret (args : List AV) (r : AV) (frs : Fr) : Prop := Abs.Ret true Try.prog 33 args r frs
def sHasFired.code : ACode := (.seq (.region false [s 3 (.box (t 1)), s 4 (.mv (.const (.bool false)))]) (.seq (.seq (.region false [s 5 (.mv (.const (.int .i64 0)))]) (.block 0 (.loop (.seq (.seq (.region false [s 6 (.mv (t 5)), s 7 (.mv (t 0)), s 8 (.len false (t 7)), s 9 (.bin .lss (t 6) (t 8))]) (.cond (t 9) .skip (.exit 0))) (.seq (.block 1 (.seq (.region true [s 12 (.mv (t 0)), s 13 (.mv (t 5)), s 14 (.iadr 2 (t 12) (t 13)), s 15 (.fadr 0 (t 14)), s 16 (.load false 1 (t 15)), s 17 (.fadr 0 (t 3)), s 18 (.fadr 0 (t 17)), s 19 (.load false 1 (t 18)), s 20 (.bin .eql (t 16) (t 19)), s 21 (.mv (t 20)), g 21 true 22 (.mv (t 0)), g 21 true 23 (.mv (t 5)), g 21 true 24 (.iadr 2 (t 22) (t 23)), g 21 true 25 (.fadr 1 (t 24)), g 21 true 26 (.load false 1 (t 25)), g 21 true 27 (.fadr 4 (t 3)), g 21 true 28 (.load false 1 (t 27)), g 21 true 29 (.call 84 [(t 26), (t 28)]), s 30 (.and (t 21) (t 29))]) (.cond (t 30) (.seq (.region false [s 4 (.mv (.const (.bool true)))]) .ret) .skip))) (.region false [s 10 (.mv (t 5)), s 11 (.bin .add (t 10) (.const (.int .i64 1))), s 5 (.mv (t 11))])))))) (.seq (.region false [s 4 (.mv (.const (.bool false)))]) .ret)))
def sHasFired.keep : List Nat := [0, 1, 3, 4, 5]
def sHasFired.res : List RRes := [.tmp 4]
theorem sHasFired.ofS {mo : Bool} {args : List AV} {r : AV} (hr : isScalR r = true) (hn : Nat.ble args.length Try.f45.ntmps = true) (h : aCode (Kn mo Try.prog) sHasFired.keep 0 sHasFired.code (doneS sHasFired.res r) ⟨argEnv 0 args, [], []⟩) : Abs.Ret mo Try.prog 45 args r [] :=
  Abs.Ret.of_irS hr Try.func45 rfl (by kernel_rfl) (Nat.le_of_ble_eq_true hn) (by kernel_rfl) (by kernel_rfl) h
abbrev sHasFired.Ret (args : List AV) (r : AV) (frs : Fr) : Prop := Abs.Ret true Try.prog 45 args r frs
def pHasFired.code : ACode := (.seq (.region false [s 3 (.box (t 1)), s 4 (.mv (.const (.bool false)))]) (.seq (.region false [s 5 (.mv (t 0)), s 6 (.clo 87 [] [(t 3)]), s 7 (.call 86 [(t 5), (t 6)]), s 4 (.mv (t 7))]) .ret))
def pHasFired.keep : List Nat := [0, 1, 3, 4]
def pHasFired.res : List RRes := [.tmp 4]
theorem pHasFired.ofS {mo : Bool} {args : List AV} {r : AV} (hr : isScalR r = true) (hn : Nat.ble args.length Try.f47.ntmps = true) (h : aCode (Kn mo Try.prog) pHasFired.keep 0 pHasFired.code (doneS pHasFired.res r) ⟨argEnv 0 args, [], []⟩) : Abs.Ret mo Try.prog 47 args r [] :=
  Abs.Ret.of_irS hr Try.func47 rfl (by kernel_rfl) (Nat.le_of_ble_eq_true hn) (by kernel_rfl) (by kernel_rfl) h
abbrev pHasFired.Ret (args : List AV) (r : AV) (frs : Fr) : Prop := Abs.Ret true Try.prog 47 args r frs
def s9SameInts.code : ACode := (.seq (.region false [s 4 (.mv (.const (.bool false)))]) (.seq (.seq (.region false [s 6 (.mv (t 0)), s 7 (.len false (t 6)), s 8 (.mv (t 1)), s 9 (.len false (t 8)), s 10 (.bin .neq (t 7) (t 9))]) (.cond (t 10) (.seq (.region false [s 4 (.mv (.const (.bool false)))]) .ret) .skip)) (.seq (.seq (.region false [s 5 (.mv (.const (.int .i64 0)))]) (.block 0 (.loop (.seq (.seq (.region false [s 11 (.mv (t 5)), s 12 (.mv (t 0)), s 13 (.len false (t 12)), s 14 (.bin .lss (t 11) (t 13))]) (.cond (t 14) .skip (.exit 0))) (.seq (.block 1 (.seq (.region true [s 17 (.mv (t 0)), s 18 (.mv (t 5)), s 19 (.iadr 1 (t 17) (t 18)), s 20 (.load false 1 (t 19)), s 21 (.mv (t 1)), s 22 (.mv (t 5)), s 23 (.iadr 1 (t 21) (t 22)), s 24 (.load false 1 (t 23)), s 25 (.bin .neq (t 20) (t 24))]) (.cond (t 25) (.seq (.region false [s 4 (.mv (.const (.bool false)))]) .ret) .skip))) (.region false [s 15 (.mv (t 5)), s 16 (.bin .add (t 15) (.const (.int .i64 1))), s 5 (.mv (t 16))])))))) (.seq (.region false [s 4 (.mv (.const (.bool true)))]) .ret))))
def s9SameInts.keep : List Nat := [0, 1, 4, 5]
def s9SameInts.res : List RRes := [.tmp 4]
theorem s9SameInts.ofS {mo : Bool} {args : List AV} {r : AV} (hr : isScalR r = true) (hn : Nat.ble args.length Try.f84.ntmps = true) (h : aCode (Kn mo Try.prog) s9SameInts.keep 0 s9SameInts.code (doneS s9SameInts.res r) ⟨argEnv 0 args, [], []⟩) : Abs.Ret mo Try.prog 84 args r [] :=
  Abs.Ret.of_irS hr Try.func84 rfl (by kernel_rfl) (Nat.le_of_ble_eq_true hn) (by kernel_rfl) (by kernel_rfl) h
abbrev s9SameInts.Ret (args : List AV) (r : AV) (frs : Fr) : Prop := Abs.Ret true Try.prog 84 args r frs
def pHasFiredClo.code : ACode := (.seq (.region false [s 2 (.box (t 0)), s 3 (.mv (.const (.bool false)))]) (.seq (.region false [s 4 (.fadr 0 (t 2)), s 5 (.load false 1 (t 4)), s 6 (.fadr 0 (t 1)), s 7 (.fadr 0 (t 6)), s 8 (.load false 1 (t 7)), s 9 (.bin .eql (t 5) (t 8)), s 10 (.mv (t 9)), g 10 true 11 (.fadr 1 (t 2)), g 10 true 12 (.load false 1 (t 11)), g 10 true 13 (.fadr 4 (t 1)), g 10 true 14 (.load false 1 (t 13)), g 10 true 15 (.call 88 [(t 12), (t 14)]), s 16 (.and (t 10) (t 15)), s 3 (.mv (t 16))]) .ret))
def pHasFiredClo.keep : List Nat := [0, 1, 2, 3]
def pHasFiredClo.res : List RRes := [.tmp 3]
theorem pHasFiredClo.ofS {mo : Bool} {args : List AV} {r : AV} (hr : isScalR r = true) (hn : Nat.ble args.length Try.f87.ntmps = true) (h : aCode (Kn mo Try.prog) pHasFiredClo.keep 0 pHasFiredClo.code (doneS pHasFiredClo.res r) ⟨argEnv 0 args, [], []⟩) : Abs.Ret mo Try.prog 87 args r [] :=
  Abs.Ret.of_irS hr Try.func87 rfl (by kernel_rfl) (Nat.le_of_ble_eq_true hn) (by kernel_rfl) (by kernel_rfl) h
abbrev pHasFiredClo.Ret (args : List AV) (r : AV) (frs : Fr) : Prop := Abs.Ret true Try.prog 87 args r frs
def slContainsFuncG.code : ACode := (.seq (.region false [s 4 (.mv (.const (.bool false)))]) (.seq (.region false [s 5 (.mv (t 0)), s 6 (.mv (t 1)), s 7 (.call 107 [(t 5), (t 6)]), s 8 (.bin .geq (t 7) (.const (.int .i64 0))), s 4 (.mv (t 8))]) .ret))
def slContainsFuncG.keep : List Nat := [0, 1, 4]
def slContainsFuncG.res : List RRes := [.tmp 4]
theorem slContainsFuncG.ofS {mo : Bool} {args : List AV} {r : AV} (hr : isScalR r = true) (hn : Nat.ble args.length Try.f86.ntmps = true) (h : aCode (Kn mo Try.prog) slContainsFuncG.keep 0 slContainsFuncG.code (doneS slContainsFuncG.res r) ⟨argEnv 0 args, [], []⟩) : Abs.Ret mo Try.prog 86 args r [] :=
  Abs.Ret.of_irS hr Try.func86 rfl (by kernel_rfl) (Nat.le_of_ble_eq_true hn) (by kernel_rfl) (by kernel_rfl) h
abbrev slContainsFuncG.Ret (args : List AV) (r : AV) (frs : Fr) : Prop := Abs.Ret true Try.prog 86 args r frs
def slIndexFuncG.code : ACode := (.seq (.region false [s 4 (.mv (.const (.int .i64 0)))]) (.seq (.seq (.region false [s 6 (.mv (t 0)), s 7 (.len false (t 6)), s 8 (.mv (.const (.int .i64 0)))]) (.block 0 (.loop (.seq (.region false [s 9 (.bin .lss (t 8) (t 7))]) (.seq (.cond (t 9) .skip (.exit 0)) (.seq (.block 1 (.seq (.region false [s 10 (.mv (t 8)), s 5 (.mv (t 10))]) (.seq (.region false [s 11 (.mv (t 1)), s 12 (.mv (t 0)), s 13 (.mv (t 5)), s 14 (.iadr 2 (t 12) (t 13)), s 15 (.load true 2 (t 14)), s 16 (.callv (t 11) [(t 15)])]) (.cond (t 16) (.seq (.region false [s 17 (.mv (t 5)), s 4 (.mv (t 17))]) .ret) .skip)))) (.region false [s 18 (.bin .add (t 8) (.const (.int .i64 1))), s 8 (.mv (t 18))]))))))) (.seq (.region false [s 4 (.mv (.const (.int .i64 (-1))))]) .ret)))
def slIndexFuncG.keep : List Nat := [0, 1, 4, 5, 7, 8, 9]
def slIndexFuncG.res : List RRes := [.tmp 4]
theorem slIndexFuncG.of {mo : Bool} {args : List AV} {r : AV} {frs : Fr} (hn : Nat.ble args.length Try.f107.ntmps = true) (h : aCode (Kn mo Try.prog) slIndexFuncG.keep 0 slIndexFuncG.code (doneK slIndexFuncG.res r frs) ⟨argEnv 0 args, [], []⟩) : Abs.Ret mo Try.prog 107 args r frs :=
  Abs.Ret.of_ir Try.func107 rfl (by kernel_rfl) (Nat.le_of_ble_eq_true hn) (by kernel_rfl) (by kernel_rfl) h
abbrev slIndexFuncG.Ret (args : List AV) (r : AV) (frs : Fr) : Prop := Abs.Ret true Try.prog 107 args r frs
end Go.Proofs.Ytplfkocigmnpmaa
namespace Go.Proofs.Ytplfkocigmnpmaa
namespace Abs
variable {α : Type}
theorem rows_snoc (T : Ty α) (l : List α) (a : α) : rows T l ++ [oldL (T.q a)] = rows T (l ++ [a]) := by simp [rows, oldLL_eq, oldL_eq]
theorem rows_cut (T : Ty α) (l : List α) : ∀ c ∈ rows T l, c.length = T.sz := oldLL_sz T.hq
theorem plain_ownA (T : Ty α) (hf : ∀ a, T.fr a = []) (e : ∀ a, T.tk a 0 = oldL (T.q a)) (F : Fr) (t k : Nat) (l : List α) (hk : F[k]? = some (t, T.sz, l.length)) {xs : List Tr} {cs : List AV} (h : OwnA F xs cs []) :
    OwnA F (.l t T.sz (l.map T.q) :: xs) (.list (some k) (rows T l) :: cs) [k] := by
  have h3 := own_plain T hf 0 F l
  have e2 : (l.map fun a => T.tk a 0) = rows T l := by rw [rows, oldLL_eq, List.map_map]; exact List.map_congr_left fun a _ => by rw [e, oldL_eq]; rfl
  rw [e2] at h3
  exact .l t T.sz _ k _ (by rw [hk, List.length_map]) (by simp) (fun e he => by obtain ⟨a, _, rfl⟩ := List.mem_map.1 he; exact T.hq a) (rows_cut T l) h3 h
theorem plain_own {mo : Bool} {P : Program} {f : Nat} {args : List AV} (T : Ty α) (hf : ∀ a, T.fr a = []) (e : ∀ a, T.tk a 0 = oldL (T.q a)) {F : Fr} (t k : Nat) {l : List α} (hk : F[k]? = some (t, T.sz, l.length)) (h : Ret mo P f args (.list (some k) (rows T l)) F) :
    Own mo P f args (.l t T.sz (l.map T.q)) := h.own [k] (plain_ownA T hf e F t k l hk .nil) (by simp)
end Abs
end Go.Proofs.Ytplfkocigmnpmaa
namespace Go.Proofs.Ytplfkocigmnpmaa
open Abs
abbrev VPair := Str × Str
instance : DecidableEq VPair := instDecidableEqProd
def tPair : Ty VPair := Ty.pair Ty.str Ty.str
theorem tPair_size (a : VPair) : tPair.size a = a.1.length + a.2.length := rfl
def tPairs : Ty (List VPair) := Ty.plain 149 tPair (fun _ => rfl) (fun _ => rfl)
theorem tPairs_sz (l : List VPair) : tPairs.size l = l.length + listSize tPair l := rfl
theorem tPair_get {l : List VPair} {i : Nat} (hi : i < l.length) : l[i]? = some (l.getD i default) := by simp [List.getD, hi]
theorem Abs.ACall.mk_Pair {C : Con} {lend : Bool} {f : Nat} {vs : List AV} {b : List ABox} {fr : Fr} {k : AV → List ABox → Fr → Prop} (ys : List AV) (a : VPair) (h : C.ret f ys (.agg (tPair.tk a 0)) []) (hv : SeesL Sees0 vs ys)
    (hk : k (.agg (tPair.tk a 0)) b fr) : ACall C lend f vs b fr k := by
  refine ACall.mkA tPair ys a h hv ?_
  show k _ b (fr ++ [])
  rw [List.append_nil]; exact hk
theorem Abs.ACall.mk_PairS {C : Con} {lend : Bool} {f : Nat} {vs : List AV} {b : List ABox} {fr : Fr} {k : AV → List ABox → Fr → Prop} (ys : List AV) (l : List VPair) (h : C.ret f ys (.list (some 0) (rows tPair l)) [(149, 2, l.length)]) (hv : SeesL Sees0 vs ys)
    (hk : k (.list (some fr.length) (rows tPair l)) b (fr ++ [(149, 2, l.length)])) : ACall C lend f vs b fr k :=
  ACall.mkV tPairs ys l (fun n => .list (some n) (rows tPair l)) (fun _ => rfl) h hv hk
theorem toPair.ret (a : VPair) (h : tPair.size a ≤ 1048576) : toPair.Ret [.agg (oldL (tPair.q a))] (.agg (tPair.tk a 0)) [] := by
  refine toPair.of rfl ?_
  rw [tPair_size] at h
  repeat' first
    | (conv => whnf
       first | refine Need.mk ⟨rfl, Nat.le_of_ble_eq_true rfl⟩ ?_ | refine Need.mk (Nat.le_of_ble_eq_true rfl) ?_ | refine FinAgg.keep ?_ | refine Final.mk rfl rfl)
  all_goals first
    | omega
    | (refine congrArg AV.agg ?_
       repeat' first
         | refine cons_congr ?_ ?_
         | refine tok_congr ?_ ?_
         | refine congrArg (tks _ _) ?_
         | rfl
       all_goals (simp [Ty.pair, Ty.str, Ty.int, Ty.bool, Nat.add_assoc]; done))
    | (simp [tPair, Ty.pair, Ty.str, Ty.int, Ty.bool, List.append_assoc, Nat.add_assoc]; done)
theorem szPair.ret (f : VPair) (a : Int) (h0 : 0 ≤ a) (ha : a ≤ 1048576) (hb : tPair.bd f) :
    szPair.Ret [.agg (oldL (tPair.q f)), .val (.int .i64 a)] (.val (.int .i64 (left a (tPair.size f)))) [] := by
  refine szPair.of rfl ?_
  have hz := tPair_size f
  obtain ⟨hb0, hb1⟩ := hb
  have hb0 : f.1.length ≤ 9223372036854775807 := hb0
  have hb1 : f.2.length ≤ 9223372036854775807 := hb1
  by_cases c1 : a < (f.1.length : Int)
  · have e0 : IntKind.i64.wrap (a - (f.1.length : Int)) = a - (f.1.length : Int) := by rw [wrap64 (by omega) (by omega)]
    repeat' first
      | (conv => whnf
         first | refine Need.mk rfl ?_ | refine Fork.decYes (by omega) ?_ | refine LitO.own rfl ?_ | refine FinVal.keep ?_ | refine Final.mk ?_ rfl)
      | refine AV.int_congr ?_
    all_goals first
      | assumption
      | omega
      | exact left_eq (by omega)
  by_cases c2 : a < (f.1.length : Int) + (f.2.length : Int)
  · have e0 : IntKind.i64.wrap (a - (f.1.length : Int)) = a - (f.1.length : Int) := by rw [wrap64 (by omega) (by omega)]
    have e1 : IntKind.i64.wrap (IntKind.i64.wrap (a - (f.1.length : Int)) - (f.2.length : Int)) = a - (f.1.length : Int) - (f.2.length : Int) := by rw [e0, wrap64 (by omega) (by omega)]
    repeat' first
      | (conv => whnf
         first | refine Need.mk rfl ?_ | refine Fork.decYes (by omega) ?_ | refine Fork.decNo (by omega) ?_ | refine LitO.own rfl ?_ | refine FinVal.keep ?_ | refine Final.mk ?_ rfl)
      | refine AV.int_congr ?_
    all_goals first
      | assumption
      | omega
      | exact left_eq (by omega)
  have e0 : IntKind.i64.wrap (a - (f.1.length : Int)) = a - (f.1.length : Int) := by rw [wrap64 (by omega) (by omega)]
  have e1 : IntKind.i64.wrap (IntKind.i64.wrap (a - (f.1.length : Int)) - (f.2.length : Int)) = a - (f.1.length : Int) - (f.2.length : Int) := by rw [e0, wrap64 (by omega) (by omega)]
  repeat' first
    | (conv => whnf
       first | refine Need.mk rfl ?_ | refine Fork.decNo (by omega) ?_ | refine LitO.own rfl ?_ | refine FinVal.keep ?_ | refine Final.mk ?_ rfl)
    | refine AV.int_congr ?_
  all_goals first
    | assumption
    | omega
    | exact left_eq (by omega)
theorem eqPair.big (f g : VPair) (h : tPair.size f ≤ 1099511627775) : eqPair.Ret [.agg (oldL (tPair.q f)), .agg (oldL (tPair.q g))] (.val (.bool (decide (f = g)))) [] := by
  refine eqPair.of rfl ?_
  have hz := tPair_size f
  repeat' first
    | (conv => whnf
       first | refine Fork.sne (fun _ => ?_) (fun _ => ?_) | refine FinVal.keep ?_ | refine Final.mk ?_ rfl)
    | refine AV.bool_congr ?_
  all_goals first
    | omega
    | (simp only [tStrs_size, tInts_size] at *; omega)
    | (obtain ⟨x0, x1⟩ := f; obtain ⟨y0, y1⟩ := g; simp_all)
theorem toPairS.ret (l : List VPair) (h : tPairs.size l ≤ 1048576) : toPairS.Ret [.list none (rows tPair l)] (.list (some 0) (rows tPair l)) [(149, 2, l.length)] := by
  refine toPairS.of rfl ?_
  rw [tPairs_sz] at h
  repeat' first
    | (conv => whnf
       first | refine Need.fin ?_)
  refine ALoop.mk Nat (fun i => ⟨[(0, .list none (rows tPair l)), (3, .bsl 0 l.length), (4, .val (.int .i64 i))], [.cells (.row 149 2) (part [.str [], .str []] (rows tPair l) i)], []⟩) (fun i => i ≤ l.length) (fun i => l.length - i) ⟨0, Nat.zero_le _, ?_⟩ (fun i hi => ?_)
  · repeat' first
      | exact trivial | refine Weak.mk ?_ ?_ ?_ ?_ (Or.inl (Nat.le_of_ble_eq_true rfl)) | refine And.intro ?_ ?_ | with_reducible rfl | exact Nat.le_of_ble_eq_true rfl | refine AV.int_congr ?_ | refine AV.list_congr ?_ | refine AV.bsl_congr ?_ ?_ | (apply rfl)
    · simp
    · simp only [List.nil_append, List.length_cons, List.length_nil, List.take_succ_cons, List.take_zero]
      rw [part_made (xs := rows tPair l) (sz := 2) rfl (by decide) (by simp)]; rfl
  have hsz : ∀ c ∈ rows tPair l, c.length = 2 := oldLL_sz tPair.hq
  repeat' first
    | (conv => whnf
       first | refine Need.mk rfl ?_ | refine Need.mk (Nat.le_of_ble_eq_true rfl) ?_ | refine Need.fin ?_ | refine Need.mk ?_ ?_ | refine Ix.mapF (fun _ => rfl) ?_ | refine Fork.dec (fun _ => ?_) (fun _ => ?_) | refine Round.mk ?_ | refine LitO.own rfl ?_ | refine ACall.mk_Pair _ _ (toPair.ret _ ?_) (by repeat' first | exact SeesL.nil | refine SeesL.cons ?_ ?_ | exact SeesB.of0 (Sees0.val _) | exact SeesB.of0 (Sees0.str _) | exact SeesB.of0 (Sees0.olds _ _) | exact SeesB.of0 (Sees0.old _) | exact SeesB.of0 (Sees0.oldagg _) | exact SeesB.of0 Sees0.nil | exact Sees0.val _ | exact Sees0.str _ | exact Sees0.olds _ _ | exact Sees0.old _ | exact Sees0.oldagg _ | exact Sees0.nil | exact SeesB.of0 (Sees0.any _) | assumption | exact sees_gv _ _ _ (by assumption) (by first | assumption | exact BoxIn.last _ _ | exact BoxIn.more (BoxIn.last _ _) _) | refine SeesB.agg ?_ | refine Sees0.agg ?_ | exact SeesB.of0 (Sees0.clo SeesL.nil SeesL.nil) | exact Sees0.clo SeesL.nil SeesL.nil | exact SeesB.of0 (Sees0.list rfl) | exact Sees0.list rfl) ?_)
  · rename_i h1
    rw [length_rows] at h1
    have := listSize_mem tPair (List.mem_of_getElem? (tPair_get (l := l) (i := i) (by omega)))
    rw [Int.toNat_natCast]; omega
  · rename_i h1
    rw [length_rows] at h1
    rw [part_len (sz := 2) rfl hsz (by rw [length_rows]; exact hi), Int.toNat_natCast, length_rows]
    exact ⟨rfl, by omega⟩
  · rename_i h1
    rw [length_rows] at h1
    refine ⟨i + 1, by omega, ?_, by omega⟩
    repeat' first
      | exact trivial | refine Weak.mk ?_ ?_ ?_ ?_ (Or.inl (Nat.le_of_ble_eq_true rfl)) | refine And.intro ?_ ?_ | with_reducible rfl | exact Nat.le_of_ble_eq_true rfl | refine AV.int_congr ?_ | refine AV.list_congr ?_ | refine AV.bsl_congr ?_ ?_
    · rw [wrap64 (by omega) (by omega)]; rfl
    · have hg : (rows tPair l)[i]? = some (oldL (tPair.q (l.getD i default))) := by rw [rows, oldLL_eq, List.getElem?_map, List.getElem?_map, tPair_get (by omega), oldL_eq]; rfl
      have := part_set (z := [.str [], .str []]) (sz := 2) rfl hsz hg
      simp only [List.set_cons_zero, List.take_succ_cons, List.take_zero, List.length_cons, List.length_nil, Int.toNat_natCast]
      exact congrArg (fun c => [ABox.cells (.row 149 2) c]) this
  · rename_i h1
    rw [length_rows] at h1
    conv => whnf
    have : i = l.length := by omega
    subst this
    have hall := part_all [.str [], .str []] (rows tPair l)
    rw [length_rows] at hall
    refine FreezeD.flat (Freeze.mk (rows tPair l) _ 149 2 rfl hall (length_rows _ _) hsz (fun c hc => ?_) ?_)
    · rw [hall, ← rowsP_tks tPair (fun _ => rfl) (fun _ => rfl)] at hc; exact tks_nr tPair l 0 c hc
    · exact Final.mk rfl rfl
theorem szPairS.ret (l : List VPair) (a : Int) (h0 : 0 ≤ a) (ha : a ≤ 1048576) (hb : tPairs.bd l) :
    szPairS.Ret [.list none (rows tPair l), .val (.int .i64 a)] (.val (.int .i64 (left a (tPairs.size l)))) [] := by
  refine szPairS.of rfl ?_
  obtain ⟨hl, hb⟩ := hb
  have hw : IntKind.i64.wrap (a - ((rows tPair l).length : Int)) = a - l.length := by rw [length_rows]; exact wrap64 (by omega) (by omega)
  have hz := tPairs_sz l
  repeat' first
    | (conv => whnf
       first | refine Need.mk rfl ?_ | refine Fork.dec (fun _ => ?_) (fun _ => ?_) | refine LitO.own rfl ?_ | refine FinVal.keep ?_ | refine Final.mk ?_ rfl)
    | refine AV.int_congr ?_
  · rename_i h
    rw [hw] at h
    rw [left, if_pos (by omega)]
  rename_i h
  rw [hw] at h
  skip
  refine ALoop.mk Nat (fun i => ⟨[(0, .list none (rows tPair l)), (1, .val (.int .i64 (a - l.length - listSize tPair (l.take i)))), (5, .val (.int .i64 i))], [], []⟩) (fun i => i ≤ l.length ∧ (0 : Int) ≤ a - l.length - listSize tPair (l.take i)) (fun i => l.length - i) ⟨0, ⟨Nat.zero_le _, by simp [listSize]; omega⟩, ?_⟩ (fun i hi => ?_)
  · repeat' first
      | exact trivial | refine Weak.mk ?_ ?_ ?_ ?_ (Or.inl (Nat.le_of_ble_eq_true rfl)) | refine And.intro ?_ ?_ | with_reducible rfl | exact Nat.le_of_ble_eq_true rfl | refine AV.int_congr ?_ | refine AV.list_congr ?_ | (apply rfl)
    rw [hw]; simp [listSize]
  obtain ⟨hp1, hp2⟩ := hi
  have hle := listSize_take_le tPair l (i + 1)
  have hbi : i < l.length → tPair.bd (l.getD i default) := fun h => hb _ (List.mem_of_getElem? (tPair_get h))
  have hsz : i < l.length → listSize tPair (l.take (i + 1)) = listSize tPair (l.take i) + tPair.size (l.getD i default) := fun h => listSize_take_succ tPair (tPair_get h)
  repeat' first
    | (conv => whnf
       first | refine Need.mk rfl ?_ | refine Need.mk (Nat.le_of_ble_eq_true rfl) ?_ | refine Ix.mapF (fun _ => rfl) ?_ | refine Fork.dec (fun _ => ?_) (fun _ => ?_) | refine Round.mk ?_ | refine LitO.own rfl ?_ | refine FinVal.keep ?_ | refine Final.mk ?_ rfl | refine ACall.scalA _ _ (szPair.ret _ _ ?_ ?_ ?_) rfl ?_)
    | refine AV.int_congr ?_
  · exact hp2
  · omega
  · rename_i h1
    rw [length_rows] at h1
    rw [Int.toNat_natCast]; exact hbi (by omega)
  · rename_i h1 h2
    rw [length_rows] at h1
    rw [Int.toNat_natCast] at h2
    have := hsz (by omega)
    unfold left at h2 ⊢
    split at h2
    · rw [if_pos (by omega)]
    · omega
  · rename_i h1 h2
    rw [length_rows] at h1
    rw [Int.toNat_natCast] at h2
    have := hsz (by omega)
    have e : left (a - ↑l.length - ↑(listSize tPair (l.take i))) (tPair.size (l.getD i default)) = a - ↑l.length - ↑(listSize tPair (l.take (i + 1))) := by
      unfold left at h2 ⊢
      split at h2
      · omega
      · rw [if_neg ‹_›]; omega
    refine ⟨i + 1, ⟨by omega, ?_⟩, ?_, by omega⟩
    · rw [← e]; omega
    · repeat' first
        | exact trivial | refine Weak.mk ?_ ?_ ?_ ?_ (Or.inl (Nat.le_of_ble_eq_true rfl)) | refine And.intro ?_ ?_ | with_reducible rfl | exact Nat.le_of_ble_eq_true rfl | refine AV.int_congr ?_ | refine AV.list_congr ?_ | (apply rfl)
      · rw [Int.toNat_natCast]; exact e
      · rw [wrap64 (by omega) (by omega)]; rfl
  · rename_i h1
    rw [length_rows] at h1
    rw [List.take_of_length_le (by omega)] at hp2 ⊢
    rw [left, if_neg (by omega)]; omega
theorem eqPairS.big (l m : List VPair) (h : tPairs.size l ≤ 1099511627775) : eqPairS.Ret [.list none (rows tPair l), .list none (rows tPair m)] (.val (.bool (decide (l = m)))) [] := by
  refine eqPairS.of rfl ?_
  rw [tPairs_sz] at h
  repeat' first
    | (conv => whnf
       first | refine Need.mk rfl ?_ | refine Fork.bne (fun _ => ?_) (fun _ => ?_) | refine LitO.own rfl ?_ | refine FinVal.keep ?_ | refine Final.mk ?_ rfl)
    | refine AV.bool_congr ?_
  · rename_i h
    rw [length_rows, length_rows] at h
    have h3 : ¬ l = m := fun e => h (by rw [e])
    simp [h3]
  rename_i h
  rw [length_rows, length_rows] at h
  have h : l.length = m.length := by omega
  skip
  refine ALoop.mk Nat (fun i => ⟨[(0, .list none (rows tPair l)), (1, .list none (rows tPair m)), (5, .val (.int .i64 i))], [], []⟩) (fun i => i ≤ l.length ∧ l.take i = m.take i) (fun i => l.length - i) ⟨0, ⟨Nat.zero_le _, rfl⟩, ?_⟩ (fun i hi => ?_)
  · repeat' first
      | exact trivial | refine Weak.mk ?_ ?_ ?_ ?_ (Or.inl (Nat.le_of_ble_eq_true rfl)) | refine And.intro ?_ ?_ | with_reducible rfl | exact Nat.le_of_ble_eq_true rfl | refine AV.int_congr ?_ | refine AV.list_congr ?_ | (apply rfl)
  repeat' first
    | (conv => whnf
       first | refine Need.mk rfl ?_ | refine Need.mk (Nat.le_of_ble_eq_true rfl) ?_ | refine Ix.mapF (fun _ => rfl) ?_ | refine Fork.dec (fun _ => ?_) (fun _ => ?_) | refine Fork.neg (fun _ => ?_) (fun _ => ?_) | refine Round.mk ?_ | refine LitO.own rfl ?_ | refine FinVal.keep ?_ | refine Final.mk ?_ rfl | refine AQCall.mkA _ _ (fun hg => eqPair.big _ _ ?_) rfl ?_)
    | refine AV.bool_congr ?_
  · rename_i h1
    rw [length_rows] at h1
    have := listSize_mem tPair (List.mem_of_getElem? (tPair_get (l := l) (i := i) (by omega)))
    rw [Int.toNat_natCast]; omega
  · rename_i h1 h2
    have h3 : ¬ l = m := fun e => of_decide_eq_false h2 (by rw [e])
    simp [h3]
  · rename_i h1 h2
    rw [length_rows] at h1
    rw [Int.toNat_natCast] at h2
    refine ⟨i + 1, ⟨by omega, ?_⟩, ?_, by omega⟩
    · rw [take_succ' default (by omega), take_succ' (l := m) default (by omega), hi.2, of_decide_eq_true h2]
    · repeat' first
        | exact trivial | refine Weak.mk ?_ ?_ ?_ ?_ (Or.inl (Nat.le_of_ble_eq_true rfl)) | refine And.intro ?_ ?_ | with_reducible rfl | exact Nat.le_of_ble_eq_true rfl | refine AV.int_congr ?_ | refine AV.list_congr ?_ | (apply rfl)
      rw [wrap64 (by omega) (by omega)]; rfl
  · rename_i h1
    rw [length_rows] at h1
    have h2 := hi.2
    rw [List.take_of_length_le (by omega), List.take_of_length_le (by omega)] at h2
    simp [h2]
end Go.Proofs.Ytplfkocigmnpmaa
namespace Go.Proofs.Ytplfkocigmnpmaa
open Abs
abbrev pairs (b : List VPair) : List (List AV) := rows tPair b
end Go.Proofs.Ytplfkocigmnpmaa
namespace Go.Proofs.Ytplfkocigmnpmaa
open Abs
structure STO {α : Type} (lt : α → α → Bool) : Prop where
  irrefl : ∀ x, lt x x = false
  trans : ∀ x y z, lt x y = true → lt y z = true → lt x z = true
  tri : ∀ x y, lt x y = false → lt y x = false → x = y
section
variable {α : Type} {lt : α → α → Bool}
def Asc (lt : α → α → Bool) (l : List α) : Prop := l.Pairwise fun x y => lt x y = true
theorem Asc.nodup (h : STO lt) {l : List α} (hl : Asc lt l) : l.Nodup := hl.imp fun {x y} hxy e => by subst e; rw [h.irrefl] at hxy; cases hxy
variable [Inhabited α] [DecidableEq α]
end
end Go.Proofs.Ytplfkocigmnpmaa
namespace Go.Proofs.Ytplfkocigmnpmaa
open Abs
/-- the variables among some texts -/
def vs (l : List Str) : List Str := l.filter varF
end Go.Proofs.Ytplfkocigmnpmaa
namespace Go.Proofs.Ytplfkocigmnpmaa
open Abs
theorem SeesB.strs {bx : List ABox} {j t : Nat} {l : List Str} (hj : bx[j]? = some (.cells (.row t 1) (strs l).flatten)) : SeesB bx (.bsl j l.length) (.list none (Abs.strs l)) := by
  refine SeesB.bsl hj (by simp) (strs_sz l) ?_
  rw [strs_eq]
  clear hj
  induction l with
  | nil => exact .nil
  | cons s l ih => exact .cons (SeesB.of0 (Sees0.str s)) ih
end Go.Proofs.Ytplfkocigmnpmaa
namespace Go.Proofs.Ytplfkocigmnpmaa
open Abs
theorem Abs.Need.finN {p q : Prop} (k : q) (h : p := by intros; (try simp only [length_strs] at *); (try simp only [length_rows] at *); (try simp only [length_oldLL, List.length_map, Int.toNat_natCast] at *); (try simp only [Bool.and_eq_true, decide_eq_true_eq] at *); omega) : Need p q := ⟨h, k⟩
theorem Abs.Ix.strsN {gd : Bool} {l : List Str} {i : Int} {sz : Nat} {k : List AV → Prop} (hs : 1 = sz) (hk : k [.str (l.getD i.toNat [])]) (h : gd = true → 0 ≤ i ∧ i < l.length := by intros; (try simp only [length_strs] at *); (try simp only [length_rows] at *); (try simp only [length_oldLL, List.length_map, Int.toNat_natCast] at *); (try simp only [Bool.and_eq_true, decide_eq_true_eq] at *); omega) : Ix gd (Abs.strs l) i sz k := Ix.strs hs h hk
theorem Abs.Ix.mapN {α : Type} [Inhabited α] {gd : Bool} {l : List α} {q : α → List Tr} {i : Int} {sz : Nat} {k : List AV → Prop} (hs : ∀ a, (q a).length = sz) (hk : k (oldL (q (l.getD i.toNat default)))) (h : gd = true → 0 ≤ i ∧ i < l.length := by intros; (try simp only [length_strs] at *); (try simp only [length_rows] at *); (try simp only [length_oldLL, List.length_map, Int.toNat_natCast] at *); (try simp only [Bool.and_eq_true, decide_eq_true_eq] at *); omega) : Ix gd (oldLL (l.map q)) i sz k := Ix.map hs h hk
theorem Abs.Fork.decY {c : Prop} [Decidable c] {p q : Prop} (k : p) (h : c := by (try simp only [length_oldLL, length_rows, length_strs, length_tks, List.length_map, Int.toNat_natCast]); omega) : Fork (decide c) p q := .decYes h k
theorem Abs.Fork.decN {c : Prop} [Decidable c] {p q : Prop} (k : q) (h : ¬ c := by (try simp only [length_oldLL, length_rows, length_strs, length_tks, List.length_map, Int.toNat_natCast]); omega) : Fork (decide c) p q := .decNo h k
theorem Abs.Fork.andY {a b : Prop} [Decidable a] [Decidable b] {p q : Prop} (k : p) (h : a ∧ b := by (try simp only [length_oldLL, length_rows, length_strs, length_tks, List.length_map, Int.toNat_natCast]); omega) : Fork (decide a && decide b) p q := .yes (by simp [h.1, h.2]) k
theorem Abs.Fork.andN {a b : Prop} [Decidable a] [Decidable b] {p q : Prop} (k : q) (h : ¬ (a ∧ b) := by (try simp only [length_oldLL, length_rows, length_strs, length_tks, List.length_map, Int.toNat_natCast]); omega) : Fork (decide a && decide b) p q := .no (by rw [← Bool.decide_and]; exact decide_eq_false h) k
section
variable {α : Type}
end
end Go.Proofs.Ytplfkocigmnpmaa
namespace Go.Proofs.Ytplfkocigmnpmaa
open Abs Go.RowKit
def timeF : List VStamp → Fct → Int
  | [], _ => 0
  | s :: l, f => if s.1 = f then s.2 else timeF l f
def timesF (l : List VStamp) (fs : List Fct) : List Int := fs.map (timeF l)
theorem timeF_drop {l : List VStamp} {f : Fct} {i : Nat} (hi : i < l.length) : timeF (l.drop i) f = if (l.getD i default).1 = f then (l.getD i default).2 else timeF (l.drop (i + 1)) f := by
  rw [List.drop_eq_getElem_cons hi, timeF]
  simp [List.getD, hi]
theorem sTimeOf.ret (l : List VStamp) (f : Fct) (h : tStamps.size l ≤ 1048576) : sTimeOf.Ret [.list none (rows tStamp l), .agg (oldL (tFct.q f))] (.val (.int .i64 (timeF l f))) [] := by
  refine sTimeOf.ofS rfl rfl ?_
  rw [tStamps_sz] at h
  repeat' first
    | contradiction | exact trivial
    | (conv => whnf
       first | refine Need.mk (fun h => h) ?_ | refine Need.mk rfl ?_ | refine Need.mk ⟨rfl, Nat.le_of_ble_eq_true rfl⟩ ?_ | refine Need.mk (Nat.le_of_ble_eq_true rfl) ?_ | refine Need.fin ?_ | refine Need.mk ?_ ?_ | refine Ix.strsF rfl ?_ | refine Ix.strs rfl ?_ ?_ | refine Cut.strs rfl ?_ ?_ | refine Ix.mapF (fun _ => rfl) ?_ | refine Ix.map (fun _ => rfl) ?_ ?_ | refine Cut.map (fun _ => rfl) ?_ ?_ | refine Fork.yes (by assumption) ?_ | refine Fork.no (by assumption) ?_ | refine Fork.decYes (by omega) ?_ | refine Fork.decNo (by omega) ?_ | refine Fork.dec (fun _ => ?_) (fun _ => ?_) | refine Fork.bne (fun _ => ?_) (fun _ => ?_) | refine Fork.beq (fun _ => ?_) (fun _ => ?_) | refine Fork.seq (fun _ => ?_) (fun _ => ?_) | refine Fork.sne (fun _ => ?_) (fun _ => ?_) | refine Fork.neg (fun _ => ?_) (fun _ => ?_) | refine Fork.mk (fun _ => ?_) (fun _ => ?_) | refine HAlt.mk ?_ ?_ | apply HJoin.mk3 | exact HEnd.mk rfl rfl rfl | refine HEnd.mk ?_ ?_ ?_ | refine Round.mk ?_ | refine NilQ.mk (fun b hb => ?_) | refine forceK_of ?_ | refine forceBx_of ?_ | refine unG_old ?_ | refine unG_gv ?_ | refine Lit.read rfl ?_ | refine LitO.own rfl ?_ | refine FinVal.keep ?_ | refine FinAgg.keep ?_ | refine Final.mk rfl rfl | refine Final.mk ?_ rfl | refine Final.mk ?_ ?_ | refine FinalT.mk ?_ ?_ | refine FinalI.mk ?_ | refine FinalC.allA ?_)
    | refine AV.bool_congr ?_ | refine AV.int_congr ?_ | refine AV.str_congr ?_ | refine AV.list_congr ?_ | with_reducible rfl | refine fr1 ?_ | refine fr2 ?_ ?_
  refine ALoop.mk Nat (fun i => ⟨[(0, .list none (rows tStamp l)), (3, .bptr 0 0), (5, .val (.int .i64 i))], [.cells .var (oldL (tFct.q f))], []⟩) (fun i => i ≤ l.length ∧ timeF (l.drop i) f = timeF l f) (fun i => l.length - i) ⟨0, ⟨Nat.zero_le _, rfl⟩, ?_⟩ (fun i hi => ?_)
  · repeat' first
      | exact trivial | refine Weak.mk ?_ ?_ ?_ ?_ (Or.inl (Nat.le_of_ble_eq_true rfl)) | refine Weak.mk ?_ ?_ ?_ ?_ (Or.inr ⟨(by repeat' first | exact trivial | exact Nat.le_of_ble_eq_true rfl | refine And.intro ?_ ?_), (by repeat' first | exact trivial | exact Nat.le_of_ble_eq_true rfl | refine And.intro ?_ ?_)⟩) | refine Weak.mk ?_ ?_ ?_ ?_ ?_ | refine And.intro ?_ ?_ | with_reducible rfl | exact Nat.le_of_ble_eq_true rfl | refine fr1 ?_ | refine fr2 ?_ ?_ | refine AV.int_congr ?_ | refine AV.bool_congr ?_ | refine AV.str_congr ?_ | refine AV.list_congr ?_ | refine AV.bsl_congr ?_ ?_ | (apply rfl)
  by_cases hi' : i < l.length
  rotate_left
  · have := hi.2
    rw [List.drop_eq_nil_of_le (by omega)] at this
    repeat' first
      | contradiction | exact trivial
      | (conv => whnf
         first | refine Need.mk (fun h => h) ?_ | refine Need.mk rfl ?_ | refine Need.mk ⟨rfl, Nat.le_of_ble_eq_true rfl⟩ ?_ | refine Need.mk (Nat.le_of_ble_eq_true rfl) ?_ | refine Need.finN ?_ | refine Need.mk ?_ ?_ | refine Ix.strsN rfl ?_ | refine Ix.strs rfl ?_ ?_ | refine Cut.strs rfl ?_ ?_ | refine Ix.mapN (fun _ => rfl) ?_ | refine Ix.map (fun _ => rfl) ?_ ?_ | refine Cut.map (fun _ => rfl) ?_ ?_ | refine Fork.yes (by assumption) ?_ | refine Fork.no (by assumption) ?_ | refine Fork.decY ?_ | refine Fork.andY ?_ | refine Fork.andN ?_ | refine Fork.decN ?_ | refine Fork.dec (fun _ => ?_) (fun _ => ?_) | refine Fork.bne (fun _ => ?_) (fun _ => ?_) | refine Fork.beq (fun _ => ?_) (fun _ => ?_) | refine Fork.seq (fun _ => ?_) (fun _ => ?_) | refine Fork.sne (fun _ => ?_) (fun _ => ?_) | refine Fork.neg (fun _ => ?_) (fun _ => ?_) | refine Fork.mk (fun _ => ?_) (fun _ => ?_) | refine HAlt.mk ?_ ?_ | apply HJoin.mk3 | exact HEnd.mk rfl rfl rfl | refine HEnd.mk ?_ ?_ ?_ | refine Round.mk ?_ | refine NilQ.mk (fun b hb => ?_) | refine forceK_of ?_ | refine forceBx_of ?_ | refine unG_old ?_ | refine unG_gv ?_ | refine Lit.read rfl ?_ | refine LitO.own rfl ?_ | refine FinVal.keep ?_ | refine FinAgg.keep ?_ | refine Final.mk rfl rfl | refine Final.mk ?_ rfl | refine Final.mk ?_ ?_ | refine FinalT.mk ?_ ?_ | refine FinalI.mk ?_ | refine FinalC.allA ?_)
      | refine AV.bool_congr ?_ | refine AV.int_congr ?_ | refine AV.str_congr ?_ | refine AV.list_congr ?_ | with_reducible rfl | refine fr1 ?_ | refine fr2 ?_ ?_
    rw [← this]; rfl
  have hst := tStamp_le hi'
  rw [tStamp_size] at hst
  have hd := timeF_drop (f := f) hi'
  rw [hi.2] at hd
  have hc := sSame.ret (l.getD i default).1 f (by omega)
  repeat' first
    | contradiction | exact trivial
    | (conv => whnf
       first | refine Need.mk (fun h => h) ?_ | refine Need.mk rfl ?_ | refine Need.mk ⟨rfl, Nat.le_of_ble_eq_true rfl⟩ ?_ | refine Need.mk (Nat.le_of_ble_eq_true rfl) ?_ | refine Need.finN ?_ | refine Need.mk ?_ ?_ | refine Ix.strsN rfl ?_ | refine Ix.strs rfl ?_ ?_ | refine Cut.strs rfl ?_ ?_ | refine Ix.mapN (fun _ => rfl) ?_ | refine Ix.map (fun _ => rfl) ?_ ?_ | refine Cut.map (fun _ => rfl) ?_ ?_ | refine Fork.yes (by assumption) ?_ | refine Fork.no (by assumption) ?_ | refine Fork.decY ?_ | refine Fork.andY ?_ | refine Fork.andN ?_ | refine Fork.decN ?_ | refine Fork.dec (fun _ => ?_) (fun _ => ?_) | refine Fork.bne (fun _ => ?_) (fun _ => ?_) | refine Fork.beq (fun _ => ?_) (fun _ => ?_) | refine Fork.seq (fun _ => ?_) (fun _ => ?_) | refine Fork.sne (fun _ => ?_) (fun _ => ?_) | refine Fork.neg (fun _ => ?_) (fun _ => ?_) | refine Fork.mk (fun _ => ?_) (fun _ => ?_) | refine HAlt.mk ?_ ?_ | apply HJoin.mk3 | exact HEnd.mk rfl rfl rfl | refine HEnd.mk ?_ ?_ ?_ | refine Round.mk ?_ | refine NilQ.mk (fun b hb => ?_) | refine forceK_of ?_ | refine forceBx_of ?_ | refine unG_old ?_ | refine unG_gv ?_ | refine Lit.read rfl ?_ | refine LitO.own rfl ?_ | refine FinVal.keep ?_ | refine FinAgg.keep ?_ | refine Final.mk rfl rfl | refine Final.mk ?_ rfl | refine Final.mk ?_ ?_ | refine FinalT.mk ?_ ?_ | refine FinalI.mk ?_ | refine FinalC.allA ?_ | refine ACall.scalA _ _ (hc) rfl ?_ | refine AQCall.mkA _ _ (fun hg => hc) rfl ?_ | refine AGCall.mkA _ _ (fun hg => hc) rfl ?_)
    | refine AV.bool_congr ?_ | refine AV.int_congr ?_ | refine AV.str_congr ?_ | refine AV.list_congr ?_ | with_reducible rfl | refine fr1 ?_ | refine fr2 ?_ ?_
  · rename_i h1
    rw [hd, if_pos (by simpa using h1)]; simp
  · rename_i h1
    refine ⟨i + 1, ⟨by omega, by rw [hd, if_neg (by simpa using h1)]⟩, ?_, by omega⟩
    repeat' first
      | exact trivial | refine Weak.mk ?_ ?_ ?_ ?_ (Or.inl (Nat.le_of_ble_eq_true rfl)) | refine Weak.mk ?_ ?_ ?_ ?_ (Or.inr ⟨(by repeat' first | exact trivial | exact Nat.le_of_ble_eq_true rfl | refine And.intro ?_ ?_), (by repeat' first | exact trivial | exact Nat.le_of_ble_eq_true rfl | refine And.intro ?_ ?_)⟩) | refine Weak.mk ?_ ?_ ?_ ?_ ?_ | refine And.intro ?_ ?_ | with_reducible rfl | exact Nat.le_of_ble_eq_true rfl | refine fr1 ?_ | refine fr2 ?_ ?_ | refine AV.int_congr ?_ | refine AV.bool_congr ?_ | refine AV.str_congr ?_ | refine AV.list_congr ?_ | refine AV.bsl_congr ?_ ?_ | (apply rfl)
    rw [wrap64 (by omega) (by omega)]; rfl
theorem pTimeOf.ret (l : List VStamp) (f : Fct) (h : tStamps.size l ≤ 1048576) : pTimeOf.Ret [.list none (rows tStamp l), .agg (oldL (tFct.q f))] (.val (.int .i64 (timeF l f))) [] := by
  refine pTimeOf.ofS rfl rfl ?_
  rw [tStamps_sz] at h
  have hl : ((rows tStamp l).length : Int) = l.length := by rw [length_rows]
  repeat' first
    | contradiction | exact trivial
    | (conv => whnf
       first | refine Need.mk (fun h => h) ?_ | refine Need.mk rfl ?_ | refine Need.mk ⟨rfl, Nat.le_of_ble_eq_true rfl⟩ ?_ | refine Need.mk (Nat.le_of_ble_eq_true rfl) ?_ | refine Need.fin ?_ | refine Need.mk ?_ ?_ | refine Ix.strsF rfl ?_ | refine Ix.strs rfl ?_ ?_ | refine Cut.strs rfl ?_ ?_ | refine Ix.mapF (fun _ => rfl) ?_ | refine Ix.map (fun _ => rfl) ?_ ?_ | refine Cut.map (fun _ => rfl) ?_ ?_ | refine Fork.yes (by assumption) ?_ | refine Fork.no (by assumption) ?_ | refine Fork.decYes (by omega) ?_ | refine Fork.decNo (by omega) ?_ | refine Fork.dec (fun _ => ?_) (fun _ => ?_) | refine Fork.bne (fun _ => ?_) (fun _ => ?_) | refine Fork.beq (fun _ => ?_) (fun _ => ?_) | refine Fork.seq (fun _ => ?_) (fun _ => ?_) | refine Fork.sne (fun _ => ?_) (fun _ => ?_) | refine Fork.neg (fun _ => ?_) (fun _ => ?_) | refine Fork.mk (fun _ => ?_) (fun _ => ?_) | refine HAlt.mk ?_ ?_ | apply HJoin.mk3 | exact HEnd.mk rfl rfl rfl | refine HEnd.mk ?_ ?_ ?_ | refine Round.mk ?_ | refine NilQ.mk (fun b hb => ?_) | refine forceK_of ?_ | refine forceBx_of ?_ | refine unG_old ?_ | refine unG_gv ?_ | refine Lit.read rfl ?_ | refine LitO.own rfl ?_ | refine FinVal.keep ?_ | refine FinAgg.keep ?_ | refine Final.mk rfl rfl | refine Final.mk ?_ rfl | refine Final.mk ?_ ?_ | refine FinalT.mk ?_ ?_ | refine FinalI.mk ?_ | refine FinalC.allA ?_)
    | refine AV.bool_congr ?_ | refine AV.int_congr ?_ | refine AV.str_congr ?_ | refine AV.list_congr ?_ | with_reducible rfl | refine fr1 ?_ | refine fr2 ?_ ?_
  refine ALoop.mk Nat (fun i => ⟨[(3, .bptr 0 0), (7, .list none (rows tStamp l)), (8, .val (.int .i64 l.length)), (9, .val (.int .i64 i))], [.cells .var (oldL (tFct.q f))], []⟩) (fun i => i ≤ l.length ∧ timeF (l.drop i) f = timeF l f) (fun i => l.length - i) ⟨0, ⟨Nat.zero_le _, rfl⟩, ?_⟩ (fun i hi => ?_)
  · repeat' first
      | exact trivial | refine Weak.mk ?_ ?_ ?_ ?_ (Or.inl (Nat.le_of_ble_eq_true rfl)) | refine Weak.mk ?_ ?_ ?_ ?_ (Or.inr ⟨(by repeat' first | exact trivial | exact Nat.le_of_ble_eq_true rfl | refine And.intro ?_ ?_), (by repeat' first | exact trivial | exact Nat.le_of_ble_eq_true rfl | refine And.intro ?_ ?_)⟩) | refine Weak.mk ?_ ?_ ?_ ?_ ?_ | refine And.intro ?_ ?_ | with_reducible rfl | exact Nat.le_of_ble_eq_true rfl | refine fr1 ?_ | refine fr2 ?_ ?_ | refine AV.int_congr ?_ | refine AV.bool_congr ?_ | refine AV.str_congr ?_ | refine AV.list_congr ?_ | refine AV.bsl_congr ?_ ?_ | (apply rfl)
    exact hl
  by_cases hi' : i < l.length
  rotate_left
  · have := hi.2
    rw [List.drop_eq_nil_of_le (by omega)] at this
    repeat' first
      | contradiction | exact trivial
      | (conv => whnf
         first | refine Need.mk (fun h => h) ?_ | refine Need.mk rfl ?_ | refine Need.mk ⟨rfl, Nat.le_of_ble_eq_true rfl⟩ ?_ | refine Need.mk (Nat.le_of_ble_eq_true rfl) ?_ | refine Need.finN ?_ | refine Need.mk ?_ ?_ | refine Ix.strsN rfl ?_ | refine Ix.strs rfl ?_ ?_ | refine Cut.strs rfl ?_ ?_ | refine Ix.mapN (fun _ => rfl) ?_ | refine Ix.map (fun _ => rfl) ?_ ?_ | refine Cut.map (fun _ => rfl) ?_ ?_ | refine Fork.yes (by assumption) ?_ | refine Fork.no (by assumption) ?_ | refine Fork.decY ?_ | refine Fork.andY ?_ | refine Fork.andN ?_ | refine Fork.decN ?_ | refine Fork.dec (fun _ => ?_) (fun _ => ?_) | refine Fork.bne (fun _ => ?_) (fun _ => ?_) | refine Fork.beq (fun _ => ?_) (fun _ => ?_) | refine Fork.seq (fun _ => ?_) (fun _ => ?_) | refine Fork.sne (fun _ => ?_) (fun _ => ?_) | refine Fork.neg (fun _ => ?_) (fun _ => ?_) | refine Fork.mk (fun _ => ?_) (fun _ => ?_) | refine HAlt.mk ?_ ?_ | apply HJoin.mk3 | exact HEnd.mk rfl rfl rfl | refine HEnd.mk ?_ ?_ ?_ | refine Round.mk ?_ | refine NilQ.mk (fun b hb => ?_) | refine forceK_of ?_ | refine forceBx_of ?_ | refine unG_old ?_ | refine unG_gv ?_ | refine Lit.read rfl ?_ | refine LitO.own rfl ?_ | refine FinVal.keep ?_ | refine FinAgg.keep ?_ | refine Final.mk rfl rfl | refine Final.mk ?_ rfl | refine Final.mk ?_ ?_ | refine FinalT.mk ?_ ?_ | refine FinalI.mk ?_ | refine FinalC.allA ?_)
      | refine AV.bool_congr ?_ | refine AV.int_congr ?_ | refine AV.str_congr ?_ | refine AV.list_congr ?_ | with_reducible rfl | refine fr1 ?_ | refine fr2 ?_ ?_
    rw [← this]; rfl
  have hst := tStamp_le hi'
  rw [tStamp_size] at hst
  have hd := timeF_drop (f := f) hi'
  rw [hi.2] at hd
  have hc := psameFact.ret (l.getD i default).1 f (by omega)
  repeat' first
    | contradiction | exact trivial
    | (conv => whnf
       first | refine Need.mk (fun h => h) ?_ | refine Need.mk rfl ?_ | refine Need.mk ⟨rfl, Nat.le_of_ble_eq_true rfl⟩ ?_ | refine Need.mk (Nat.le_of_ble_eq_true rfl) ?_ | refine Need.finN ?_ | refine Need.mk ?_ ?_ | refine Ix.strsN rfl ?_ | refine Ix.strs rfl ?_ ?_ | refine Cut.strs rfl ?_ ?_ | refine Ix.mapN (fun _ => rfl) ?_ | refine Ix.map (fun _ => rfl) ?_ ?_ | refine Cut.map (fun _ => rfl) ?_ ?_ | refine Fork.yes (by assumption) ?_ | refine Fork.no (by assumption) ?_ | refine Fork.decY ?_ | refine Fork.andY ?_ | refine Fork.andN ?_ | refine Fork.decN ?_ | refine Fork.dec (fun _ => ?_) (fun _ => ?_) | refine Fork.bne (fun _ => ?_) (fun _ => ?_) | refine Fork.beq (fun _ => ?_) (fun _ => ?_) | refine Fork.seq (fun _ => ?_) (fun _ => ?_) | refine Fork.sne (fun _ => ?_) (fun _ => ?_) | refine Fork.neg (fun _ => ?_) (fun _ => ?_) | refine Fork.mk (fun _ => ?_) (fun _ => ?_) | refine HAlt.mk ?_ ?_ | apply HJoin.mk3 | exact HEnd.mk rfl rfl rfl | refine HEnd.mk ?_ ?_ ?_ | refine Round.mk ?_ | refine NilQ.mk (fun b hb => ?_) | refine forceK_of ?_ | refine forceBx_of ?_ | refine unG_old ?_ | refine unG_gv ?_ | refine Lit.read rfl ?_ | refine LitO.own rfl ?_ | refine FinVal.keep ?_ | refine FinAgg.keep ?_ | refine Final.mk rfl rfl | refine Final.mk ?_ rfl | refine Final.mk ?_ ?_ | refine FinalT.mk ?_ ?_ | refine FinalI.mk ?_ | refine FinalC.allA ?_ | refine ACall.scalA _ _ (hc) rfl ?_ | refine AQCall.mkA _ _ (fun hg => hc) rfl ?_ | refine AGCall.mkA _ _ (fun hg => hc) rfl ?_)
    | refine AV.bool_congr ?_ | refine AV.int_congr ?_ | refine AV.str_congr ?_ | refine AV.list_congr ?_ | with_reducible rfl | refine fr1 ?_ | refine fr2 ?_ ?_
  · rename_i h1
    rw [hd, if_pos (by simpa using h1)]; simp
  · rename_i h1
    refine ⟨i + 1, ⟨by omega, by rw [hd, if_neg (by simpa using h1)]⟩, ?_, by omega⟩
    repeat' first
      | exact trivial | refine Weak.mk ?_ ?_ ?_ ?_ (Or.inl (Nat.le_of_ble_eq_true rfl)) | refine Weak.mk ?_ ?_ ?_ ?_ (Or.inr ⟨(by repeat' first | exact trivial | exact Nat.le_of_ble_eq_true rfl | refine And.intro ?_ ?_), (by repeat' first | exact trivial | exact Nat.le_of_ble_eq_true rfl | refine And.intro ?_ ?_)⟩) | refine Weak.mk ?_ ?_ ?_ ?_ ?_ | refine And.intro ?_ ?_ | with_reducible rfl | exact Nat.le_of_ble_eq_true rfl | refine fr1 ?_ | refine fr2 ?_ ?_ | refine AV.int_congr ?_ | refine AV.bool_congr ?_ | refine AV.str_congr ?_ | refine AV.list_congr ?_ | refine AV.bsl_congr ?_ ?_ | (apply rfl)
    rw [wrap64 (by omega) (by omega)]; rfl
end Go.Proofs.Ytplfkocigmnpmaa
namespace Go.Proofs.Ytplfkocigmnpmaa
namespace Abs
open Go.RowKit
mutual
/-- the tree as a value, its tokens from n on: elements first -/
def tkT : Tr → Nat → AV
  | .v x, _ => .val x
  | .s x, _ => .str x
  | .l _ _ xs, n => .list (some (n + nbLL xs)) (tkLL xs n)
  | .a fs, n => .agg (tkL fs n)
  | .p fs, n => .tup (tkL fs n)
def tkL : List Tr → Nat → List AV
  | [], _ => []
  | x :: xs, n => tkT x n :: tkL xs (n + nb x)
def tkLL : List (List Tr) → Nat → List (List AV)
  | [], _ => []
  | x :: xs, n => tkL x n :: tkLL xs (n + nbL x)
end
mutual
def frT : Tr → Fr
  | .v _ => []
  | .s _ => []
  | .l t sz xs => frLL xs ++ [(t, sz, xs.length)]
  | .a fs => frL fs
  | .p fs => frL fs
def frL : List Tr → Fr
  | [] => []
  | x :: xs => frT x ++ frL xs
def frLL : List (List Tr) → Fr
  | [] => []
  | x :: xs => frL x ++ frLL xs
end
mutual
theorem length_frT : ∀ x : Tr, (frT x).length = nb x
  | .v _ => rfl
  | .s _ => rfl
  | .l _ _ xs => by rw [frT, nb, List.length_append, length_frLL xs]; rfl
  | .a fs => by rw [frT, nb, length_frL fs]
  | .p fs => by rw [frT, nb, length_frL fs]
theorem length_frL : ∀ x : List Tr, (frL x).length = nbL x
  | [] => rfl
  | x :: xs => by rw [frL, nbL, List.length_append, length_frT x, length_frL xs]
theorem length_frLL : ∀ x : List (List Tr), (frLL x).length = nbLL x
  | [] => rfl
  | x :: xs => by rw [frLL, nbLL, List.length_append, length_frL x, length_frLL xs]
end
theorem frL_append : ∀ xs ys, frL (xs ++ ys) = frL xs ++ frL ys
  | [], _ => rfl
  | x :: xs, ys => by rw [List.cons_append, frL, frL, frL_append xs, List.append_assoc]
theorem frLL_flatten : ∀ xs, frLL xs = frL xs.flatten
  | [] => rfl
  | x :: xs => by rw [frLL, List.flatten_cons, frL_append, frLL_flatten xs]
theorem tkL_append : ∀ xs ys n, tkL (xs ++ ys) n = tkL xs n ++ tkL ys (n + nbL xs)
  | [], ys, n => by rw [nbL]; rfl
  | x :: xs, ys, n => by rw [List.cons_append, tkL, tkL, tkL_append xs, nbL, Nat.add_assoc]; rfl
theorem tkLL_flatten : ∀ xs n, (tkLL xs n).flatten = tkL xs.flatten n
  | [], _ => rfl
  | x :: xs, n => by rw [tkLL, List.flatten_cons, List.flatten_cons, tkL_append, tkLL_flatten xs]
theorem length_tkL : ∀ xs n, (tkL xs n).length = xs.length
  | [], _ => rfl
  | x :: xs, n => by rw [tkL, List.length_cons, length_tkL xs]; rfl
theorem length_tkLL : ∀ xs n, (tkLL xs n).length = xs.length
  | [], _ => rfl
  | x :: xs, n => by rw [tkLL, List.length_cons, length_tkLL xs]; rfl
theorem tkLL_sz {sz : Nat} : ∀ xs n, (∀ e ∈ xs, e.length = sz) → ∀ e ∈ tkLL xs n, e.length = sz
  | [], _, _, e, he => by cases he
  | x :: xs, n, h, e, he => by
    rw [tkLL] at he
    rcases List.mem_cons.1 he with rfl | he
    · rw [length_tkL]; exact h x List.mem_cons_self
    · exact tkLL_sz xs _ (fun e he => h e (List.mem_cons_of_mem _ he)) e he
def TokOne (B : Nat) (w : World) (x : Tr) (v : Value) (d1 : List Nat) : Prop :=
  ∃ ids : List (Option Nat), ids.length = nb x ∧ (∀ (i b : Nat), ids[i]? = some (some b) → b ∈ d1) ∧ (d1.Nodup → ∀ (i j b : Nat), ids[i]? = some (some b) → ids[j]? = some (some b) → i = j) ∧
    ((∀ d ∈ d1, B ≤ d) → ∀ (n : Nat) (F : Nat → Nat) (tok : List (Option Nat)) (fr : Fr), (∀ (i : Nat) d, ids[i]? = some d → tok[n + i]? = some d) → (∀ (i : Nat) y, (frT x)[i]? = some y → fr[n + i]? = some y) →
      (∀ (i b t s m : Nat), ids[i]? = some (some b) → (frT x)[i]? = some (t, s, m) → F b = m * s) → ∀ box, Rep B w F tok fr box (tkT x n) v)
def TokAll (B : Nat) (w : World) (xs : List Tr) (vs : List Value) (d1 : List Nat) : Prop :=
  ∃ ids : List (Option Nat), ids.length = nbL xs ∧ (∀ (i b : Nat), ids[i]? = some (some b) → b ∈ d1) ∧ (d1.Nodup → ∀ (i j b : Nat), ids[i]? = some (some b) → ids[j]? = some (some b) → i = j) ∧
    ((∀ d ∈ d1, B ≤ d) → ∀ (n : Nat) (F : Nat → Nat) (tok : List (Option Nat)) (fr : Fr), (∀ (i : Nat) d, ids[i]? = some d → tok[n + i]? = some d) → (∀ (i : Nat) y, (frL xs)[i]? = some y → fr[n + i]? = some y) →
      (∀ (i b t s m : Nat), ids[i]? = some (some b) → (frL xs)[i]? = some (t, s, m) → F b = m * s) → ∀ (i : Nat) x v, (tkL xs n)[i]? = some x → vs[i]? = some v → ∀ box, Rep B w F tok fr box x v)
theorem TokAll.cons {B : Nat} {w : World} {x : Tr} {v : Value} {xs : List Tr} {vs : List Value} {d1 ds : List Nat} (h1 : TokOne B w x v d1) (h2 : TokAll B w xs vs ds) : TokAll B w (x :: xs) (v :: vs) (d1 ++ ds) := by
  obtain ⟨ids1, l1, m1, n1, r1⟩ := h1
  obtain ⟨ids2, l2, m2, n2, r2⟩ := h2
  refine ⟨ids1 ++ ids2, by rw [List.length_append, l1, l2, nbL], fun i b hi => ?_, fun hnd i j b hi hj => ?_, fun hB n F tok fr ht hf hF i y u hy hu box => ?_⟩
  · rw [List.getElem?_append] at hi
    split at hi
    · exact List.mem_append_left _ (m1 _ _ hi)
    · exact List.mem_append_right _ (m2 _ _ hi)
  · obtain ⟨e1, e2, e3⟩ := List.nodup_append.1 hnd
    rw [List.getElem?_append] at hi hj
    split at hi <;> split at hj
    · exact n1 e1 _ _ _ hi hj
    · exact absurd rfl (e3 b (m1 _ _ hi) b (m2 _ _ hj))
    · exact absurd rfl (e3 b (m1 _ _ hj) b (m2 _ _ hi))
    · have := n2 e2 _ _ _ hi hj; omega
  · have hfl : (frT x).length = ids1.length := by rw [length_frT, l1]
    cases i with
    | zero =>
      rw [tkL] at hy
      simp only [List.getElem?_cons_zero, Option.some.injEq] at hy hu
      subst hy; subst hu
      refine r1 (fun d hd => hB d (List.mem_append_left _ hd)) n F tok fr (fun i d hi => ht i d (by rw [List.getElem?_append_left (getElem?_lt hi)]; exact hi)) (fun i y hi => hf i y (by rw [frL, List.getElem?_append_left (getElem?_lt hi)]; exact hi)) (fun i b t s m hi hm => hF i b t s m ?_ ?_) box
      · rw [List.getElem?_append_left (getElem?_lt hi)]; exact hi
      · rw [frL, List.getElem?_append_left (getElem?_lt hm)]; exact hm
    | succ i =>
      rw [tkL] at hy
      refine r2 (fun d hd => hB d (List.mem_append_right _ hd)) (n + nb x) F tok fr (fun i d hi => ?_) (fun i y hi => ?_) (fun i b t s m hi hm => ?_) i y u (by simpa using hy) (by simpa using hu) box
      · rw [Nat.add_assoc]; refine ht (nb x + i) d ?_
        rw [List.getElem?_append_right (by omega), l1, Nat.add_sub_cancel_left]; exact hi
      · rw [Nat.add_assoc]; refine hf (nb x + i) y ?_
        rw [frL, List.getElem?_append_right (by rw [length_frT]; omega), length_frT, Nat.add_sub_cancel_left]; exact hi
      · refine hF (nb x + i) b t s m ?_ ?_
        · rw [List.getElem?_append_right (by omega), l1, Nat.add_sub_cancel_left]; exact hi
        · rw [frL, List.getElem?_append_right (by rw [length_frT]; omega), length_frT, Nat.add_sub_cancel_left]; exact hm
theorem TokOne.flat {B : Nat} {w : World} {x : Tr} {v : Value} (h0 : nb x = 0) (h : ∀ n F tok fr box, Rep B w F tok fr box (tkT x n) v) : TokOne B w x v [] :=
  ⟨[], by rw [h0]; rfl, by simp, by simp, fun _ n F tok fr _ _ _ box => h n F tok fr box⟩
theorem OwnL.toks {B : Nat} {w : World} {xs : List Tr} {vs : List Value} {ds : List Nat} (h : OwnL w xs vs ds) : TokAll B w xs vs ds := by
  induction h with
  | nil => exact ⟨[], rfl, by simp, by simp, fun _ n F tok fr _ _ _ i x v hx => by simp [tkL] at hx⟩
  | v x hp _ ih => exact TokAll.cons (d1 := []) (.flat rfl fun _ _ _ _ _ => .val _) ih
  | s x _ ih => exact TokAll.cons (d1 := []) (.flat rfl fun _ _ _ _ _ => .str _) ih
  | none t sz _ ih =>
    refine TokAll.cons (d1 := []) ⟨[Option.none], rfl, fun i b hi => ?_, fun _ i j b hi hj => ?_, fun _ n F tok fr ht hf _ box => ?_⟩ ih
    · cases i <;> simp at hi
    · cases i <;> simp at hi
    · refine .list (some (n + 0)) [] Option.none 0 sz 0 0 (fun _ _ => undef) (Nat.le_refl _) (fun h => absurd rfl h) (by simp) (fun h => absurd rfl h) (by simp) (by simp) (fun k hk => ?_)
      cases hk
      exact ⟨t, sz, 0, hf 0 _ rfl, Nat.le_refl _, fun _ => ⟨rfl, ⟨[], by simp, Or.inl ⟨rfl, rfl⟩⟩, ht 0 _ rfl, fun b hb => by cases hb⟩⟩
  | l t sz es b cap c us hb hc hl hm hs hu h1 he _ ih1 ih2 =>
    refine TokAll.cons (d1 := b :: _) ?_ ih2
    obtain ⟨ids, l1, m1, n1, r1⟩ := ih1
    rw [← nbLL_flatten] at l1
    have last : ∀ {i : Nat} {d : Option Nat}, (ids ++ [some b])[i]? = some d → ids[i]? = some d ∨ (i = ids.length ∧ d = some b) := fun {i d} hi => by
      rw [List.getElem?_append] at hi
      split at hi
      · exact .inl hi
      · rw [List.getElem?_singleton] at hi
        split at hi
        · cases hi; exact .inr ⟨by omega, rfl⟩
        · cases hi
    refine ⟨ids ++ [some b], by rw [List.length_append, l1, nb]; rfl, fun i b' hi => ?_, fun hnd i j b' hi hj => ?_, fun hB n F tok fr ht hf hF box => ?_⟩
    · rcases last hi with hi | ⟨_, hi⟩
      · exact List.mem_cons_of_mem _ (m1 _ _ hi)
      · cases hi; exact List.mem_cons_self
    · obtain ⟨e1, e2⟩ := List.nodup_cons.1 hnd
      rcases last hi with hi | ⟨hi, hi'⟩ <;> rcases last hj with hj | ⟨hj, hj'⟩
      · exact n1 e2 _ _ _ hi hj
      · cases hj'; exact absurd (m1 _ _ hi) e1
      · cases hi'; exact absurd (m1 _ _ hj) e1
      · omega
    · have hlast : (frT (.l t sz es))[nbLL es]? = some (t, sz, es.length) := by
        rw [frT, List.getElem?_append_right (by rw [length_frLL]; omega), length_frLL, Nat.sub_self]; rfl
      have hFb : F b = es.length * sz := hF (nbLL es) b t sz es.length (by rw [List.getElem?_append_right (by omega), l1, Nat.sub_self]; rfl) hlast
      have hin := r1 (fun d hd => hB d (List.mem_cons_of_mem _ hd)) n F tok fr (fun i d hi => ht i d (by rw [List.getElem?_append_left (getElem?_lt hi)]; exact hi))
        (fun i y hi => hf i y (by rw [frT, frLL_flatten, List.getElem?_append_left (getElem?_lt hi)]; exact hi))
        (fun i b' t' s' m' hi hm' => hF i b' t' s' m' (by rw [List.getElem?_append_left (getElem?_lt hi)]; exact hi) (by rw [frT, frLL_flatten, List.getElem?_append_left (getElem?_lt hm')]; exact hm'))
      have hlen : (tkLL es n).length = es.length := length_tkLL es n
      have hsz : ∀ e ∈ tkLL es n, e.length = sz := tkLL_sz es n hs
      have hcs : es.length * sz ≤ c.size := by rw [hc]; exact Nat.mul_le_mul_right _ hl
      have hul : us.length = es.length * sz := by rw [← hu]; simp; omega
      have key : ∀ (i : Nat) e (j : Nat) y, (tkLL es n)[i]? = some e → e[j]? = some y → i * sz + j < c.size ∧ us[i * sz + j]? = some (c.getD (i * sz + j) undef) ∧ Rep B w F tok fr [] y (c.getD (i * sz + j) undef) := fun i e j y hi hj => by
        have hf := flatten_get sz (tkLL es n) i j e y hsz hi hj
        rw [tkLL_flatten] at hf
        have hlt : i * sz + j < us.length := by
          have := getElem?_lt hf
          rw [length_tkL] at this
          rw [← he.length]; exact this
        obtain ⟨g1, g2⟩ := getD_take hu hlt
        exact ⟨g2, g1, hin _ y _ hf g1 []⟩
      show Rep B w F tok fr box (.list (some (n + nbLL es)) (tkLL es n)) (.slice (some ⟨b, 0, Option.none⟩) es.length cap)
      rw [← hlen]
      refine .list (some (n + nbLL es)) (tkLL es n) _ cap sz b 0 (fun i j => c.getD (i * sz + j) undef) (by omega) (fun _ => rfl) hsz (fun _ => ?_) (fun i e j y hi hj => ?_) (fun i e j y hi hj => (key i e j y hi hj).2.2) (fun k hk => ?_)
      · rw [hFb, hlen, Nat.zero_add]; exact Nat.le_refl _
      · obtain ⟨k1, k2, _⟩ := key i e j y hi hj
        exact ⟨by rw [Nat.zero_add]; simp [World.cell?, hb, k1, Array.getD], h1 _ (List.mem_of_getElem? k2)⟩
      · cases hk
        rw [hlen]
        refine ⟨t, sz, es.length, hf _ _ hlast, Nat.le_refl _, fun _ => ⟨rfl, ⟨us, hul, Or.inr ⟨b, cap, c, rfl, hB b List.mem_cons_self, hb, hl, hm, hc, hu⟩⟩, ?_, fun b' hb' => by cases hb'; exact hFb⟩⟩
        exact ht (nbLL es) _ (by rw [List.getElem?_append_right (by omega), l1, Nat.sub_self]; rfl)
  | a fs us h1 he _ ih1 ih2 =>
    refine TokAll.cons ?_ ih2
    obtain ⟨ids, l1, m1, n1, r1⟩ := ih1
    refine ⟨ids, by rw [l1, nb], m1, n1, fun hB n F tok fr ht hf hF box => ?_⟩
    have hin := r1 hB n F tok fr ht (by rw [frT] at hf; exact hf) (by rw [frT] at hF; exact hF)
    have hl := he.length
    have hg : ∀ i, i < us.size → us.toList[i]? = some (us.getD i undef) := fun i hi => by simp [Array.getD, hi]
    rw [tkT]
    refine .agg _ us (by rw [length_tkL]; simpa using hl) (fun i hi => h1 _ (List.mem_of_getElem? (hg i hi))) (fun i c hc => ?_)
    have := getElem?_lt hc
    rw [length_tkL] at this
    exact hin i c _ hc (hg i (by simp at hl; omega)) box
  | p fs us he _ ih1 ih2 =>
    refine TokAll.cons ?_ ih2
    obtain ⟨ids, l1, m1, n1, r1⟩ := ih1
    refine ⟨ids, by rw [l1, nb], m1, n1, fun hB n F tok fr ht hf hF box => ?_⟩
    have hin := r1 hB n F tok fr ht (by rw [frT] at hf; exact hf) (by rw [frT] at hF; exact hF)
    have hl := he.length
    have hg : ∀ i, i < us.size → us.toList[i]? = some (us.getD i undef) := fun i hi => by simp [Array.getD, hi]
    rw [tkT]
    refine .tup _ us (by rw [length_tkL]; simpa using hl) (fun i c hc => ?_)
    have := getElem?_lt hc
    rw [length_tkL] at this
    exact hin i c _ hc (hg i (by simp at hl; omega)) box
variable {mo : Bool}
theorem ORet.ret {P : Program} {f : Nat} {args : List AV} {x : Tr} (h : ORet mo P f args x) : ARet mo P f args (tkT x 0) (frT x) := by
  refine ⟨h.1, fun w F vs hcond hout hargs => (h.2 w F vs hcond hout hargs).mono ?_⟩
  rintro e w' ⟨v, ds, rfl, hb, hown, hnd, hds⟩
  obtain ⟨ids, l1, m1, n1, r1⟩ := hown.toks (B := w.heap.size)
  have hfl : frL [x] = frT x := by rw [frL, frL, List.append_nil]
  rw [show nbL [x] = nb x by rw [nbL, nbL, Nat.add_zero]] at l1
  -- what is known of a block's length
  let G : Nat → Option (Option Nat × (Nat × Nat × Nat)) := fun b => (ids.zip (frT x)).find? fun p => p.1 == some b
  have hG : ∀ b p, G b = some p → b ∈ ds := fun b p hp => by
    have h1 := List.find?_some hp
    have h2 := List.mem_of_find?_eq_some hp
    obtain ⟨i, hi⟩ := List.getElem?_of_mem (List.of_mem_zip h2).1
    rw [beq_iff_eq] at h1
    exact m1 i b (by rw [hi, h1])
  refine ⟨v, fun b => match G b with | some p => p.2.2.2 * p.2.2.1 | none => F b, ids, [], rfl, hb, fun b hlt => ?_, fun b hge => ?_, by rw [l1, length_frT], fun k b hk => hds b (m1 k b hk), fun k l b hk hl => n1 hnd k l b hk hl, ?_⟩
  · cases hg : G b with
    | none => simp only [hg]
    | some p => have := (hds b (hG b p hg)).1; omega
  · cases hg : G b with
    | none => simp only [hg]; exact hout b (Nat.le_trans hb.size hge)
    | some p => have := (hds b (hG b p hg)).2; omega
  · refine r1 (fun d hd => (hds d hd).1) 0 _ ids (frT x) (fun i d hi => by rw [Nat.zero_add]; exact hi) (fun i y hi => by rw [Nat.zero_add, ← hfl]; exact hi) (fun i b t s m hi hm => ?_) 0 _ v (by rw [tkL]; rfl) rfl []
    rw [hfl] at hm
    have hz : (ids.zip (frT x))[i]? = some (some b, (t, s, m)) := by rw [List.getElem?_zip_eq_some]; exact ⟨hi, hm⟩
    cases hg : G b with
    | none =>
      have := List.find?_eq_none.1 hg _ (List.mem_of_getElem? hz)
      simp at this
    | some p =>
      have h1 := List.find?_some hg
      obtain ⟨j, hj⟩ := List.getElem?_of_mem (List.mem_of_find?_eq_some hg)
      rw [beq_iff_eq] at h1
      obtain ⟨j1, j2⟩ := List.getElem?_zip_eq_some.1 hj
      rw [h1] at j1
      have := n1 hnd i j b hi j1
      subst this
      rw [hm] at j2
      simp only [hg]
      rw [← Option.some.inj j2]
theorem Own.ret {P : Program} {f : Nat} {args : List AV} {x : Tr} (h : Own mo P f args x) : Ret mo P f args (tkT x 0) (frT x) := by
  rw [Own_eq] at h; rw [Ret_eq]; exact h.ret
/-- a type whose values have their tokens as their trees have -/
def Canon {α : Type} (T : Ty α) : Prop := ∀ a, (∀ n, T.tk a n = tkL (T.q a) n) ∧ T.fr a = frL (T.q a)
mutual
theorem tkT_old : ∀ (x : Tr) (n : Nat), nb x = 0 → tkT x n = old x
  | .v _, _, _ => rfl
  | .s _, _, _ => rfl
  | .l _ _ xs, _, h => by rw [nb] at h; omega
  | .a fs, n, h => by rw [nb] at h; rw [tkT, old, tkL_old fs n h]
  | .p fs, n, h => by rw [nb] at h; rw [tkT, old, tkL_old fs n h]
theorem tkL_old : ∀ (x : List Tr) (n : Nat), nbL x = 0 → tkL x n = oldL x
  | [], _, _ => rfl
  | x :: xs, n, h => by rw [nbL] at h; rw [tkL, oldL, tkT_old x n (by omega), tkL_old xs _ (by omega)]
end
theorem tkLL_old : ∀ (x : List (List Tr)) (n : Nat), nbLL x = 0 → tkLL x n = oldLL x
  | [], _, _ => rfl
  | x :: xs, n, h => by rw [nbLL] at h; rw [tkLL, oldLL, tkL_old x n (by omega), tkLL_old xs _ (by omega)]
theorem Canon.fr {α : Type} {T : Ty α} (h : Canon T) (a : α) : (T.fr a).length = nbL (T.q a) := by rw [(h a).2, length_frL]
theorem Canon.str : Canon Ty.str := fun _ => ⟨fun _ => rfl, rfl⟩
theorem Canon.pair {α β : Type} {T : Ty α} {U : Ty β} (h : Canon T) (k : Canon U) : Canon (Ty.pair T U) := fun a => by
  refine ⟨fun n => ?_, ?_⟩
  · show T.tk a.1 n ++ U.tk a.2 (n + (T.fr a.1).length) = tkL (T.q a.1 ++ U.q a.2) n
    rw [tkL_append, (h a.1).1, (k a.2).1, h.fr]
  · show T.fr a.1 ++ U.fr a.2 = frL (T.q a.1 ++ U.q a.2)
    rw [frL_append, (h a.1).2, (k a.2).2]
theorem Canon.tks {α : Type} {T : Ty α} (h : Canon T) : ∀ (l : List α) (n : Nat), Abs.tks T l n = tkLL (l.map T.q) n
  | [], _ => rfl
  | a :: l, n => by rw [Abs.tks, List.map_cons, tkLL, (h a).1, h.fr, h.tks l]
theorem Canon.frs {α : Type} {T : Ty α} (h : Canon T) : ∀ (l : List α), Abs.frs T l = frLL (l.map T.q)
  | [] => rfl
  | a :: l => by
    rw [List.map_cons, frLL, ← h.frs l, ← (h a).2]; rfl
theorem Canon.list {α : Type} {T : Ty α} (t : Nat) (h : Canon T) : Canon (Ty.list t T) := fun l => by
  have hf := h.frs l
  refine ⟨fun n => ?_, ?_⟩
  · show [AV.list (some (n + (Abs.frs T l).length)) (Abs.tks T l n)] = tkL [.l t T.sz (l.map T.q)] n
    rw [tkL, tkL, tkT, h.tks, hf, length_frLL]
  · show Abs.frs T l ++ [(t, T.sz, l.length)] = frL [.l t T.sz (l.map T.q)]
    rw [frL, frL, frT, hf, List.append_nil, List.length_map]
theorem Canon.plain {α : Type} {T : Ty α} (t : Nat) (h : ∀ a, T.fr a = []) (e : ∀ a, T.tk a 0 = oldL (T.q a)) (hc : Canon T) : Canon (Ty.plain t T h e) := fun l => by
  have h0 : nbLL (l.map T.q) = 0 := by
    induction l with
    | nil => rfl
    | cons a l ih => rw [List.map_cons, nbLL, ih, ← hc.fr a, h]; rfl
  have hf : frLL (l.map T.q) = [] := List.eq_nil_of_length_eq_zero (by rw [length_frLL, h0])
  refine ⟨fun n => ?_, ?_⟩
  · show [AV.list (some n) (oldLL (l.map T.q))] = tkL [.l t T.sz (l.map T.q)] n
    rw [tkL, tkL, tkT, h0, tkLL_old _ _ h0]; rfl
  · show [(t, T.sz, l.length)] = frL [.l t T.sz (l.map T.q)]
    rw [frL, frL, frT, hf, List.length_map]; rfl
theorem Canon.ret {α : Type} {T : Ty α} (hc : Canon T) {P : Program} {f : Nat} {args : List AV} {a : α} {x : Tr} {r : AV} (hx : T.q a = [x]) (hr : T.tk a 0 = [r]) (h : Own mo P f args x) : Ret mo P f args r (T.fr a) := by
  have h1 := h.ret
  obtain ⟨c1, c2⟩ := hc a
  have e1 := c1 0
  rw [hr, hx, tkL, tkL] at e1
  rw [hx, frL, frL, List.append_nil] at c2
  rw [(List.cons.inj e1).1, c2]; exact h1
end Abs
end Go.Proofs.Ytplfkocigmnpmaa
namespace Go.Proofs.Ytplfkocigmnpmaa
namespace Abs
variable {α : Type}
theorem OwnA.mono {F F' : Fr} {xs : List Tr} {cs : List AV} {ts : List Nat} (h : OwnA F xs cs ts) : (∀ k ∈ ts, F'[k]? = F[k]?) → OwnA F' xs cs ts := by
  induction h with
  | nil => exact fun _ => .nil
  | v x hp _ ih => exact fun hF => .v x hp (ih hF)
  | s x _ ih => exact fun hF => .s x (ih hF)
  | nils t sz _ ih => exact fun hF => .nils t sz (ih hF)
  | l t sz es k ys hk hl hs hy _ _ ih1 ih2 =>
    exact fun hF => .l t sz es k ys (by rw [hF k (by simp)]; exact hk) hl hs hy (ih1 fun j hj => hF j (by simp [hj])) (ih2 fun j hj => hF j (by simp [hj]))
  | a fs us _ _ ih1 ih2 => exact fun hF => .a fs us (ih1 fun j hj => hF j (by simp [hj])) (ih2 fun j hj => hF j (by simp [hj]))
  | av fs us h1 _ _ ih1 ih2 => exact fun hF => .av fs us h1 (ih1 fun j hj => hF j (by simp [hj])) (ih2 fun j hj => hF j (by simp [hj]))
  | p fs us _ _ ih1 ih2 => exact fun hF => .p fs us (ih1 fun j hj => hF j (by simp [hj])) (ih2 fun j hj => hF j (by simp [hj]))
theorem OwnA.lt {F : Fr} {xs : List Tr} {cs : List AV} {ts : List Nat} (h : OwnA F xs cs ts) : ∀ k ∈ ts, k < F.length := by
  induction h with
  | nil => simp
  | v _ _ _ ih => exact ih
  | s _ _ ih => exact ih
  | nils _ _ _ ih => exact ih
  | l t sz es k ys hk _ _ _ _ _ ih1 ih2 =>
    intro j hj
    simp only [List.cons_append, List.mem_cons, List.mem_append] at hj
    rcases hj with rfl | hj | hj
    · exact getElem?_lt hk
    · exact ih1 j hj
    · exact ih2 j hj
  | a _ _ _ _ ih1 ih2 => exact fun j hj => (List.mem_append.1 hj).elim (ih1 j) (ih2 j)
  | av _ _ _ _ _ ih1 ih2 => exact fun j hj => (List.mem_append.1 hj).elim (ih1 j) (ih2 j)
  | p _ _ _ _ ih1 ih2 => exact fun j hj => (List.mem_append.1 hj).elim (ih1 j) (ih2 j)
theorem OwnA.len {F : Fr} {xs : List Tr} {cs : List AV} {ts : List Nat} (h : OwnA F xs cs ts) : xs.length = cs.length := by
  induction h <;> simp_all
/-- slice k is the list al, with rows ys, whose tokens are ts -/
structure AccO (T : Ty α) (t k : Nat) (F : Fr) (al : List α) (ys : List (List AV)) (ts : List Nat) : Prop where
  hk : F[k]? = some (t, T.sz, al.length)
  hl : ys.length = al.length
  hs : ∀ y ∈ ys, y.length = T.sz
  own : OwnA F (al.map T.q).flatten ys.flatten ts
  nd : ts.Nodup
  kn : k ∉ ts
theorem AccO.nil {T : Ty α} {t k : Nat} {F : Fr} (hk : F[k]? = some (t, T.sz, 0)) : AccO T t k F [] [] [] := ⟨hk, rfl, by simp, .nil, List.nodup_nil, by simp⟩
theorem AccO.klt {T : Ty α} {t k : Nat} {F : Fr} {al : List α} {ys : List (List AV)} {ts : List Nat} (h : AccO T t k F al ys ts) : k < F.length := getElem?_lt h.hk
theorem AccO.app {T : Ty α} {t k : Nat} {F : Fr} {al : List α} {ys : List (List AV)} {ts : List Nat} (h : AccO T t k F al ys ts) {m : Nat} (bs : List α) (zs : List (List AV)) (us : List Nat) (hm : m = al.length + bs.length) (hl : zs.length = bs.length) (hs : ∀ z ∈ zs, z.length = T.sz)
    (ho : OwnA F (bs.map T.q).flatten zs.flatten us) (hn : us.Nodup) (hd : ∀ j ∈ us, j ≠ k ∧ j ∉ ts) : AccO T t k (F.set k (t, T.sz, m)) (al ++ bs) (ys ++ zs) (ts ++ us) where
  hk := by rw [List.getElem?_set, if_pos rfl, if_pos h.klt, hm, List.length_append]
  hl := by rw [List.length_append, List.length_append, h.hl, hl]
  hs y hy := (List.mem_append.1 hy).elim (h.hs y) (hs y)
  own := by
    rw [List.map_append, List.flatten_append, List.flatten_append]
    refine OwnA.append (h.own.mono fun j hj => ?_) (ho.mono fun j hj => ?_)
    · rw [List.getElem?_set, if_neg fun e => h.kn (by rw [e]; exact hj)]
    · rw [List.getElem?_set, if_neg fun e => (hd j hj).1 e.symm]
  nd := List.nodup_append.2 ⟨h.nd, hn, fun a ha b hb e => (hd b hb).2 (by rw [← e]; exact ha)⟩
  kn hm := (List.mem_append.1 hm).elim h.kn fun hm => (hd k hm).1 rfl
theorem AccO.final {T : Ty α} {t k : Nat} {F : Fr} {al : List α} {ys : List (List AV)} {ts : List Nat} (h : AccO T t k F al ys ts) : ∃ us, OwnA F [.l t T.sz (al.map T.q)] [.list (some k) ys] us ∧ us.Nodup := by
  refine ⟨k :: ts ++ [], .l t T.sz _ k ys (by rw [h.hk, List.length_map]) (by rw [h.hl, List.length_map]) (fun e he => ?_) h.hs h.own .nil, ?_⟩
  · obtain ⟨a, _, rfl⟩ := List.mem_map.1 he
    exact T.hq a
  · rw [List.append_nil]; exact List.nodup_cons.2 ⟨h.kn, h.nd⟩
end Abs
end Go.Proofs.Ytplfkocigmnpmaa
namespace Go.Proofs.Ytplfkocigmnpmaa
open Abs
theorem Canon.int : Canon Ty.int := fun _ => ⟨fun _ => rfl, rfl⟩
mutual
theorem Abs.inB_nr {m : Nat} : ∀ {x : AV}, noRef x = true → inB m x
  | .bptr _ _, h => by cases h
  | .bsl _ _, h => by cases h
  | .bmap _, h => by cases h
  | .tag _ x, h => inB_nr (x := x) h
  | .agg cs, h => inBL_nr (cs := cs) h
  | .tup cs, h => inBL_nr (cs := cs) h
  | .clo _ a b, h => by
    have h' : (noRef.noRefL a && noRef.noRefL b) = true := h
    rw [Bool.and_eq_true] at h'
    exact ⟨inBL_nr (cs := a) h'.1, inBL_nr (cs := b) h'.2⟩
  | .cond _ _, h => by cases h
  | .any, _ => trivial
  | .val _, _ => trivial
  | .str _, _ => trivial
  | .list _ _, _ => trivial
  | .rptr _, _ => trivial
theorem Abs.inBL_nr {m : Nat} : ∀ {cs : List AV}, noRef.noRefL cs = true → inB.inBL m cs
  | [], _ => trivial
  | c :: cs, h => by
    have h' : (noRef c && noRef.noRefL cs) = true := h
    rw [Bool.and_eq_true] at h'
    exact ⟨inB_nr (x := c) h'.1, inBL_nr (cs := cs) h'.2⟩
end
theorem part_inT {α : Type} (T : Ty α) (m : Nat) (z : List AV) (hz : ∀ c ∈ z, noRef c = true) (l : List α) (n i : Nat) : inB.inBL m (part z (tks T l n) i) := by
  refine inBL_nr ?_
  rw [noRefL_all, List.all_eq_true]
  intro c hc
  rw [part, List.mem_append] at hc
  rcases hc with h | h
  · obtain ⟨x, hx, hc⟩ := List.mem_flatten.1 h
    exact tks_nr T l n c (List.mem_flatten.2 ⟨x, List.mem_of_mem_take hx, hc⟩)
  · obtain ⟨x, hx, hc⟩ := List.mem_flatten.1 h
    rw [List.eq_of_mem_replicate hx] at hc
    exact hz c hc
end Go.Proofs.Ytplfkocigmnpmaa
namespace Go.Proofs.Ytplfkocigmnpmaa
open Abs
def tInts : Ty (List Int) := Ty.plain 3 Ty.int (fun _ => rfl) (fun _ => rfl)
theorem tInts_size (l : List Int) : tInts.size l = l.length + listSize Ty.int l := rfl
theorem szI_zero : ∀ l : List Int, listSize Ty.int l = 0
  | [] => rfl
  | a :: l => by rw [listSize, szI_zero l]; rfl
theorem szI_eq (l : List Int) : l.length = tInts.size l := by rw [tInts_size, szI_zero, Nat.add_zero]
theorem ints_get {l : List Int} {i : Nat} (hi : i < l.length) : l[i]? = some (l.getD i default) := by simp [List.getD, hi]
theorem Abs.ACall.mk_IntS {C : Con} {lend : Bool} {f : Nat} {vs : List AV} {b : List ABox} {fr : Fr} {k : AV → List ABox → Fr → Prop} (ys : List AV) (l : List Int) (h : C.ret f ys (.list (some 0) (rows Ty.int l)) [(3, 1, l.length)]) (hv : SeesL Sees0 vs ys)
    (hk : k (.list (some fr.length) (rows Ty.int l)) b (fr ++ [(3, 1, l.length)])) : ACall C lend f vs b fr k :=
  ACall.mkV tInts ys l (fun n => .list (some n) (rows Ty.int l)) (fun _ => rfl) h hv hk
theorem toIntS.ret (l : List Int) (hl : l.length ≤ 1048576) : toIntS.Ret [.list none (rows Ty.int l)] (.list (some 0) (rows Ty.int l)) [(3, 1, l.length)] := by
  refine toIntS.of rfl ?_
  have hsz : ∀ c ∈ rows Ty.int l, c.length = 1 := oldLL_sz Ty.int.hq
  repeat' first
    | contradiction | exact trivial
    | (conv => whnf
       first | refine Need.mk (fun h => h) ?_ | refine Need.mk rfl ?_ | refine Need.mk ⟨rfl, Nat.le_of_ble_eq_true rfl⟩ ?_ | refine Need.mk (Nat.le_of_ble_eq_true rfl) ?_ | refine Need.fin ?_ | refine Need.mk ?_ ?_ | refine Ix.strsF rfl ?_ | refine Ix.strs rfl ?_ ?_ | refine Cut.strs rfl ?_ ?_ | refine Ix.mapF (fun _ => rfl) ?_ | refine Ix.map (fun _ => rfl) ?_ ?_ | refine Cut.map (fun _ => rfl) ?_ ?_ | refine Fork.yes (by assumption) ?_ | refine Fork.no (by assumption) ?_ | refine Fork.decYes (by omega) ?_ | refine Fork.decNo (by omega) ?_ | refine Fork.dec (fun _ => ?_) (fun _ => ?_) | refine Fork.bne (fun _ => ?_) (fun _ => ?_) | refine Fork.beq (fun _ => ?_) (fun _ => ?_) | refine Fork.seq (fun _ => ?_) (fun _ => ?_) | refine Fork.sne (fun _ => ?_) (fun _ => ?_) | refine Fork.neg (fun _ => ?_) (fun _ => ?_) | refine Fork.mk (fun _ => ?_) (fun _ => ?_) | refine HAlt.mk ?_ ?_ | apply HJoin.mk3 | exact HEnd.mk rfl rfl rfl | refine HEnd.mk ?_ ?_ ?_ | refine Round.mk ?_ | refine NilQ.mk (fun b hb => ?_) | refine forceK_of ?_ | refine forceBx_of ?_ | refine unG_old ?_ | refine unG_gv ?_ | refine Lit.read rfl ?_ | refine LitO.own rfl ?_ | refine FinVal.keep ?_ | refine FinAgg.keep ?_ | refine Final.mk rfl rfl | refine Final.mk ?_ rfl | refine Final.mk ?_ ?_ | refine FinalT.mk ?_ ?_ | refine FinalI.mk ?_ | refine FinalC.allA ?_)
    | refine AV.bool_congr ?_ | refine AV.int_congr ?_ | refine AV.str_congr ?_ | refine AV.list_congr ?_ | with_reducible rfl | refine fr1 ?_ | refine fr2 ?_ ?_
  refine ALoop.mk Nat (fun i => ⟨[(0, .list none (rows Ty.int l)), (3, .bsl 0 l.length), (4, .val (.int .i64 i))], [.cells (.row 3 1) (part [.val (.int .i64 0)] (rows Ty.int l) i)], []⟩) (fun i => i ≤ l.length) (fun i => l.length - i) ⟨0, Nat.zero_le _, ?_⟩ (fun i hi => ?_)
  · repeat' first
      | exact trivial | refine Weak.mk ?_ ?_ ?_ ?_ (Or.inl (Nat.le_of_ble_eq_true rfl)) | refine Weak.mk ?_ ?_ ?_ ?_ (Or.inr ⟨(by repeat' first | exact trivial | exact Nat.le_of_ble_eq_true rfl | refine And.intro ?_ ?_), (by repeat' first | exact trivial | exact Nat.le_of_ble_eq_true rfl | refine And.intro ?_ ?_)⟩) | refine Weak.mk ?_ ?_ ?_ ?_ ?_ | refine And.intro ?_ ?_ | with_reducible rfl | exact Nat.le_of_ble_eq_true rfl | refine fr1 ?_ | refine fr2 ?_ ?_ | refine AV.int_congr ?_ | refine AV.bool_congr ?_ | refine AV.str_congr ?_ | refine AV.list_congr ?_ | refine AV.bsl_congr ?_ ?_ | (apply rfl)
    · simp
    · simp only [List.nil_append, List.length_cons, List.length_nil, List.take_succ_cons, List.take_zero]
      rw [part_made (xs := rows Ty.int l) (sz := 1) rfl (by decide) (by simp)]; rfl
  repeat' first
    | contradiction | exact trivial
    | (conv => whnf
       first | refine Need.mk (fun h => h) ?_ | refine Need.mk rfl ?_ | refine Need.mk ⟨rfl, Nat.le_of_ble_eq_true rfl⟩ ?_ | refine Need.mk (Nat.le_of_ble_eq_true rfl) ?_ | refine Need.fin ?_ | refine Need.mk ?_ ?_ | refine Ix.strsF rfl ?_ | refine Ix.strs rfl ?_ ?_ | refine Cut.strs rfl ?_ ?_ | refine Ix.mapF (fun _ => rfl) ?_ | refine Ix.map (fun _ => rfl) ?_ ?_ | refine Cut.map (fun _ => rfl) ?_ ?_ | refine Fork.yes (by assumption) ?_ | refine Fork.no (by assumption) ?_ | refine Fork.decYes (by omega) ?_ | refine Fork.decNo (by omega) ?_ | refine Fork.dec (fun _ => ?_) (fun _ => ?_) | refine Fork.bne (fun _ => ?_) (fun _ => ?_) | refine Fork.beq (fun _ => ?_) (fun _ => ?_) | refine Fork.seq (fun _ => ?_) (fun _ => ?_) | refine Fork.sne (fun _ => ?_) (fun _ => ?_) | refine Fork.neg (fun _ => ?_) (fun _ => ?_) | refine Fork.mk (fun _ => ?_) (fun _ => ?_) | refine HAlt.mk ?_ ?_ | apply HJoin.mk3 | exact HEnd.mk rfl rfl rfl | refine HEnd.mk ?_ ?_ ?_ | refine Round.mk ?_ | refine NilQ.mk (fun b hb => ?_) | refine forceK_of ?_ | refine forceBx_of ?_ | refine unG_old ?_ | refine unG_gv ?_ | refine Lit.read rfl ?_ | refine LitO.own rfl ?_ | refine FinVal.keep ?_ | refine FinAgg.keep ?_ | refine Final.mk rfl rfl | refine Final.mk ?_ rfl | refine Final.mk ?_ ?_ | refine FinalT.mk ?_ ?_ | refine FinalI.mk ?_ | refine FinalC.allA ?_)
    | refine AV.bool_congr ?_ | refine AV.int_congr ?_ | refine AV.str_congr ?_ | refine AV.list_congr ?_ | with_reducible rfl | refine fr1 ?_ | refine fr2 ?_ ?_
  · rename_i h
    rw [length_rows] at h
    rw [part_len (sz := 1) rfl hsz (by simp; exact hi), Int.toNat_natCast, length_rows]
    exact ⟨rfl, by omega⟩
  · rename_i h
    rw [length_rows] at h
    refine ⟨i + 1, by omega, ?_, by omega⟩
    repeat' first
      | exact trivial | refine Weak.mk ?_ ?_ ?_ ?_ (Or.inl (Nat.le_of_ble_eq_true rfl)) | refine Weak.mk ?_ ?_ ?_ ?_ (Or.inr ⟨(by repeat' first | exact trivial | exact Nat.le_of_ble_eq_true rfl | refine And.intro ?_ ?_), (by repeat' first | exact trivial | exact Nat.le_of_ble_eq_true rfl | refine And.intro ?_ ?_)⟩) | refine Weak.mk ?_ ?_ ?_ ?_ ?_ | refine And.intro ?_ ?_ | with_reducible rfl | exact Nat.le_of_ble_eq_true rfl | refine fr1 ?_ | refine fr2 ?_ ?_ | refine AV.int_congr ?_ | refine AV.bool_congr ?_ | refine AV.str_congr ?_ | refine AV.list_congr ?_ | refine AV.bsl_congr ?_ ?_ | (apply rfl)
    · rw [wrap64 (by omega) (by omega)]; rfl
    · have hg : (rows Ty.int l)[i]? = some (oldL (Ty.int.q (l.getD i default))) := by rw [rows, oldLL_eq, List.getElem?_map, List.getElem?_map, ints_get (by omega), oldL_eq]; rfl
      have := part_set (z := [.val (.int .i64 0)]) (sz := 1) rfl hsz hg
      simp only [List.set_cons_zero, List.take_succ_cons, List.take_zero, List.length_cons, List.length_nil, Int.toNat_natCast]
      exact congrArg (fun c => [ABox.cells (.row 3 1) c]) this
  · rename_i h
    rw [length_rows] at h
    conv => whnf
    have : i = l.length := by omega
    subst this
    have hall := part_all [.val (.int .i64 0)] (rows Ty.int l)
    rw [length_rows] at hall
    refine FreezeD.flat (Freeze.mk (rows Ty.int l) _ 3 1 rfl hall (length_rows _ _) hsz (fun c hc => ?_) ?_)
    · rw [hall, ← rowsP_tks Ty.int (fun _ => rfl) (fun _ => rfl)] at hc; exact tks_nr Ty.int l 0 c hc
    · exact Final.mk rfl rfl
theorem szIntS.ret (l : List Int) (a : Int) (h0 : 0 ≤ a) (ha : a ≤ 1048576) (hl : l.length ≤ 9223372036854775807) :
    szIntS.Ret [.list none (rows Ty.int l), .val (.int .i64 a)] (.val (.int .i64 (left a l.length))) [] := by
  refine szIntS.of rfl ?_
  have hw : IntKind.i64.wrap (a - ((rows Ty.int l).length : Int)) = a - l.length := by rw [length_rows]; exact wrap64 (by omega) (by omega)
  repeat' first
    | contradiction | exact trivial
    | (conv => whnf
       first | refine Need.mk (fun h => h) ?_ | refine Need.mk rfl ?_ | refine Need.mk ⟨rfl, Nat.le_of_ble_eq_true rfl⟩ ?_ | refine Need.mk (Nat.le_of_ble_eq_true rfl) ?_ | refine Need.fin ?_ | refine Need.mk ?_ ?_ | refine Ix.strsF rfl ?_ | refine Ix.strs rfl ?_ ?_ | refine Cut.strs rfl ?_ ?_ | refine Ix.mapF (fun _ => rfl) ?_ | refine Ix.map (fun _ => rfl) ?_ ?_ | refine Cut.map (fun _ => rfl) ?_ ?_ | refine Fork.yes (by assumption) ?_ | refine Fork.no (by assumption) ?_ | refine Fork.decYes (by omega) ?_ | refine Fork.decNo (by omega) ?_ | refine Fork.dec (fun _ => ?_) (fun _ => ?_) | refine Fork.bne (fun _ => ?_) (fun _ => ?_) | refine Fork.beq (fun _ => ?_) (fun _ => ?_) | refine Fork.seq (fun _ => ?_) (fun _ => ?_) | refine Fork.sne (fun _ => ?_) (fun _ => ?_) | refine Fork.neg (fun _ => ?_) (fun _ => ?_) | refine Fork.mk (fun _ => ?_) (fun _ => ?_) | refine HAlt.mk ?_ ?_ | apply HJoin.mk3 | exact HEnd.mk rfl rfl rfl | refine HEnd.mk ?_ ?_ ?_ | refine Round.mk ?_ | refine NilQ.mk (fun b hb => ?_) | refine forceK_of ?_ | refine forceBx_of ?_ | refine unG_old ?_ | refine unG_gv ?_ | refine Lit.read rfl ?_ | refine LitO.own rfl ?_ | refine FinVal.keep ?_ | refine FinAgg.keep ?_ | refine Final.mk rfl rfl | refine Final.mk ?_ rfl | refine Final.mk ?_ ?_ | refine FinalT.mk ?_ ?_ | refine FinalI.mk ?_ | refine FinalC.allA ?_)
    | refine AV.bool_congr ?_ | refine AV.int_congr ?_ | refine AV.str_congr ?_ | refine AV.list_congr ?_ | with_reducible rfl | refine fr1 ?_ | refine fr2 ?_ ?_
  all_goals rename_i h
  all_goals rw [hw] at h
  · rw [left, if_pos (by omega)]
  · rw [hw, left, if_neg (by omega)]
theorem eqIntS.big (l m : List Int) (h : tInts.size l ≤ 1099511627775) : eqIntS.Ret [.list none (rows Ty.int l), .list none (rows Ty.int m)] (.val (.bool (decide (l = m)))) [] := by
  refine eqIntS.of rfl ?_
  rw [← szI_eq] at h
  repeat' first
    | (conv => whnf
       first | refine Need.mk rfl ?_ | refine Fork.bne (fun _ => ?_) (fun _ => ?_) | refine LitO.own rfl ?_ | refine FinVal.keep ?_ | refine Final.mk ?_ rfl)
    | refine AV.bool_congr ?_
  · rename_i h
    rw [length_rows, length_rows] at h
    have h3 : ¬ l = m := fun e => h (by rw [e])
    simp [h3]
  rename_i h
  rw [length_rows, length_rows] at h
  have h : l.length = m.length := by omega
  skip
  refine ALoop.mk Nat (fun i => ⟨[(0, .list none (rows Ty.int l)), (1, .list none (rows Ty.int m)), (5, .val (.int .i64 i))], [], []⟩) (fun i => i ≤ l.length ∧ l.take i = m.take i) (fun i => l.length - i) ⟨0, ⟨Nat.zero_le _, rfl⟩, ?_⟩ (fun i hi => ?_)
  · repeat' first
      | exact trivial | refine Weak.mk ?_ ?_ ?_ ?_ (Or.inl (Nat.le_of_ble_eq_true rfl)) | refine And.intro ?_ ?_ | with_reducible rfl | exact Nat.le_of_ble_eq_true rfl | refine AV.int_congr ?_ | refine AV.list_congr ?_ | (apply rfl)
  repeat' first
    | (conv => whnf
       first | refine Need.mk rfl ?_ | refine Ix.mapF (fun _ => rfl) ?_ | refine Fork.dec (fun _ => ?_) (fun _ => ?_) | refine Fork.bne (fun _ => ?_) (fun _ => ?_) | refine Round.mk ?_ | refine LitO.own rfl ?_ | refine FinVal.keep ?_ | refine Final.mk ?_ rfl)
    | refine AV.bool_congr ?_
  · rename_i h1 h2
    have h3 : ¬ l = m := fun e => h2 (by rw [e])
    simp [h3]
  · rename_i h1 h2
    rw [length_rows] at h1
    refine ⟨i + 1, ⟨by omega, ?_⟩, ?_, by omega⟩
    · rw [take_succ' default (by omega), take_succ' (l := m) default (by omega), hi.2]
      rw [Int.toNat_natCast] at h2
      have h2' : l.getD i default = m.getD i default := h2
      rw [h2']
    · repeat' first
        | exact trivial | refine Weak.mk ?_ ?_ ?_ ?_ (Or.inl (Nat.le_of_ble_eq_true rfl)) | refine And.intro ?_ ?_ | with_reducible rfl | exact Nat.le_of_ble_eq_true rfl | refine AV.int_congr ?_ | refine AV.list_congr ?_ | (apply rfl)
      rw [wrap64 (by omega) (by omega)]; rfl
  · rename_i h1
    rw [length_rows] at h1
    have h2 := hi.2
    rw [List.take_of_length_le (by omega), List.take_of_length_le (by omega)] at h2
    simp [h2]
theorem cnLL_int : ∀ (l : List Int), cnLL (l.map Ty.int.q) = l.length
  | [] => rfl
  | s :: l => by rw [List.map_cons, cnLL, cnLL_int l, List.length_cons]; show 1 + 0 + _ = _; omega
theorem markIntS.tn (l : List Int) (k : Nat) (_hs : tInts.size l ≤ 1099511627775) (hk : k + cn (.l 3 1 (l.map Ty.int.q)) ≤ 1099511627775) :
    markIntS.Turn (gb (.l 3 1 (l.map Ty.int.q)) 0) [gv (.l 3 1 (l.map Ty.int.q)) 0, .val (.int .i64 k)] (.val (.int .i64 ((k + cn (.l 3 1 (l.map Ty.int.q)) : Nat)))) (gb (mk (.l 3 1 (l.map Ty.int.q)) k) 0) := by
  refine markIntS.ofT rfl rfl (by rw [length_gb, nb_mk]) ?_
  obtain ⟨cs, hcs⟩ : ∃ cs, cs = (l.map Ty.int.q).flatten := ⟨_, rfl⟩
  have hlen : cs.length = l.length * 1 := by rw [hcs]; exact flat_len _ 1 Ty.int.hq l
  have hc0 : ∀ i, i < l.length → cs[i * 1 + 0]? = some (.v (.int .i64 (l.getD i default))) := fun i hi => by rw [hcs]; exact cell_at Ty.int.q 1 Ty.int.hq hi rfl
  have hcl : cnC cs = l.length := by rw [hcs, ← cnLL_flatten, cnLL_int]
  rw [gb_mk_l0, gb_l0, cn_l, gv, List.length_map, ← hcs]
  rw [cn_l, ← hcs] at hk
  clear hcs
  skip
  refine ALoop.mk Nat (fun i => ⟨[(0, .bsl 0 l.length), (1, .val (.int .i64 ((k + cnC (cs.take (i * 1)) : Nat)))), (5, .val (.int .i64 i))], .cells (.row 3 1) (gvL (st cs k (i * 1)) 1) :: gbL (st cs k (i * 1)) 1, []⟩) (fun i => i ≤ l.length) (fun i => l.length - i) ⟨0, Nat.zero_le _, ?_⟩ (fun i hi => ?_)
  · refine weak_st ⟨rfl, ?_, rfl, trivial⟩ ?_ ?_ rfl ?_
    · rw [Nat.zero_mul]; rfl
    · rw [Nat.zero_mul, st_zero]
    · rw [Nat.zero_mul, st_zero]
    · rw [Nat.zero_mul, st_zero, List.length_cons]; exact Nat.le_refl _
  have hle := cn_take_le cs (i * 1)
  rcases Nat.lt_or_ge i l.length with hlt | hge
  rotate_left
  · have hiw : i * 1 = cs.length := by omega
    repeat' first
      | (conv => whnf
         first | refine Need.mk rfl ?_ | refine Fork.decNo (by omega) ?_ | refine forceBx_of ?_ | refine LitO.own rfl ?_ | refine FinalT.mk ?_ ?_)
      | refine AV.int_congr ?_
    · rw [hiw, List.take_length]
    · rw [hiw, st_all cs k rfl]; exact take_all (by rw [List.length_cons, List.length_cons, length_gbL, length_gbL, nbL_mkC]; exact Nat.le_refl _)
  have hi1 : (i + 1) * 1 = i * 1 + 1 := by omega
  have l0 := cn_take_le cs (i * 1 + 1)
  have n0 : cnC (cs.take (i * 1 + 1)) = cnC (cs.take (i * 1)) + 1 := cn_succ (hc0 i hlt)
  have w0 : IntKind.i64.wrap (((k + cnC (cs.take (i * 1)) : Nat) : Int) + 1) = ((k + cnC (cs.take (i * 1 + 1)) : Nat) : Int) := by rw [wrap64 (by omega) (by omega)]; omega
  have b0 : gbL (st cs k (i * 1 + 1)) 1 = gbL (st cs k (i * 1)) 1 := gbL_st k 1 (hc0 i hlt) rfl
  have g0 : gvL (st cs k (i * 1 + 1)) 1 = (gvL (st cs k (i * 1)) 1).set (i * 1) (.val (.int .i64 (((k + cnC (cs.take (i * 1)) : Nat) : Int)))) := gvL_st k 1 (hc0 i hlt)
  repeat' first
    | (conv => whnf
       first | refine Need.mk rfl ?_ | refine Need.fin ?_ | refine Need.mk ⟨rfl, by simp only [length_setAt, List.length_set, length_gvL, length_st, Int.toNat_natCast]; omega⟩ ?_ | refine Fork.decYes (by omega) ?_ | refine Round.mk ?_ | refine forceBx_of ?_ | refine LitO.own rfl ?_)
  refine ⟨i + 1, by omega, weak_st ⟨rfl, AV.int_congr ?_, AV.int_congr ?_, trivial⟩ (congrArg (ABox.cells (.row 3 1)) ?_) ?_ rfl ?_, by omega⟩
  · rw [hi1]; exact w0
  · rw [wrap64 (by omega) (by omega)]; rfl
  · rw [hi1, g0]
    try rfl
  · rw [hi1, b0]
  · simp only [hi1, List.length_cons, length_gbL, nbL_st, Nat.le_refl]
theorem heldIntS.hd (l : List Int) (k : Nat) (_hs : tInts.size l ≤ 1099511627775) (hk : k + cn (.l 3 1 (l.map Ty.int.q)) ≤ 1099511627775) : heldIntS.Ret [old (mk (.l 3 1 (l.map Ty.int.q)) k), .val (.int .i64 k)] (.val (.int .i64 ((k + cn (.l 3 1 (l.map Ty.int.q)) : Nat)))) [] := by
  refine heldIntS.ofS rfl rfl ?_
  have hl : (oldLL (mkLL (l.map Ty.int.q) k)).length = l.length := by rw [length_oldLL, length_mkLL, List.length_map]
  change k + cnLL (l.map Ty.int.q) ≤ _ at hk
  have hcl := cnLL_int l
  show aCode _ _ _ _ (doneS _ (.val (.int .i64 ((k + cnLL (l.map Ty.int.q) : Nat))))) ⟨argEnv 0 [.list none (oldLL (mkLL (l.map Ty.int.q) k)), .val (.int .i64 k)], [], []⟩
  skip
  refine ALoop.mk Nat (fun i => ⟨[(0, .list none (oldLL (mkLL (l.map Ty.int.q) k))), (1, .val (.int .i64 ((k + cnLL ((l.map Ty.int.q).take i) : Nat)))), (5, .val (.int .i64 i))], [], []⟩) (fun i => i ≤ l.length) (fun i => l.length - i) ⟨0, Nat.zero_le _, ?_⟩ (fun i hi => ?_)
  · repeat' first
      | exact trivial | refine Weak.mk ?_ ?_ ?_ ?_ (Or.inl (Nat.le_of_ble_eq_true rfl)) | refine And.intro ?_ ?_ | with_reducible rfl | exact Nat.le_of_ble_eq_true rfl | refine AV.int_congr ?_ | refine AV.list_congr ?_ | (apply rfl)
  rcases Nat.lt_or_ge i l.length with hlt | hge
  rotate_left
  · have hil : (l.map Ty.int.q).take i = l.map Ty.int.q := List.take_of_length_le (by rw [List.length_map]; exact hge)
    repeat' first
      | (conv => whnf
         first | refine Need.mk rfl ?_ | refine Fork.decNo (by omega) ?_ | refine LitO.own rfl ?_ | refine FinVal.keep ?_ | refine Final.mk ?_ rfl)
      | refine AV.int_congr ?_
    rw [hil]
  have hx : (l.map Ty.int.q)[i]? = some (Ty.int.q (l.getD i default)) := by rw [List.getElem?_map, ints_get hlt]; rfl
  have hle := cnLL_take_le (l.map Ty.int.q) (i + 1)
  have hn := cnLL_succ hx
  obtain ⟨K, hK⟩ : ∃ K, K = k + cnLL ((l.map Ty.int.q).take i) := ⟨_, rfl⟩
  have hix : (0 : Int) ≤ (i : Int) ∧ (oldLL (mkLL (l.map Ty.int.q) k))[(i : Int).toNat]? = some (oldL (mkC (Ty.int.q (l.getD i default)) K)) ∧ (oldL (mkC (Ty.int.q (l.getD i default)) K)).length = 1 := by
    refine ⟨by omega, ?_, by rw [oldL_eq, List.length_map, length_mkC, Ty.int.hq]; rfl⟩
    rw [Int.toNat_natCast, oldLL_eq, List.getElem?_map, mkLL_get _ _ _ _ hx, oldL_eq, hK]; rfl
  have hKn : k + cnLL ((l.map Ty.int.q).take (i + 1)) = K + 1 := by
    rw [hn, ← Nat.add_assoc, ← hK]; rfl
  rw [← hK]
  have w0 : IntKind.i64.wrap ((K : Int) + 1) = ((K + 1 : Nat) : Int) := by rw [wrap64 (by omega) (by omega)]; omega
  repeat' first
    | (conv => whnf
       first | refine Need.mk rfl ?_ | refine Ix.mk _ (fun _ => hix) ?_ | refine Fork.decYes (by omega) ?_ | refine LitO.own rfl ?_)
  conv => whnf
  refine Fork.bne (fun h => absurd rfl h) (fun _ => ?_)
  repeat' first
    | (conv => whnf
       first | refine Need.mk rfl ?_ | refine Round.mk ?_ | refine LitO.own rfl ?_)
  refine ⟨i + 1, by omega, ?_, by omega⟩
  repeat' first
    | exact trivial | refine Weak.mk ?_ ?_ ?_ ?_ (Or.inl (Nat.le_of_ble_eq_true rfl)) | refine And.intro ?_ ?_ | with_reducible rfl | exact Nat.le_of_ble_eq_true rfl | refine AV.int_congr ?_ | refine AV.list_congr ?_ | (apply rfl)
  · rw [hKn]; exact w0
  · rw [wrap64 (by omega) (by omega)]; rfl
end Go.Proofs.Ytplfkocigmnpmaa
namespace Go.Proofs.Ytplfkocigmnpmaa
open Abs Go.RowKit
def factsF (l : List VStamp) : List Fct := l.map (·.1)
theorem factsF_len (l : List VStamp) : (factsF l).length = l.length := by rw [factsF, List.length_map]
theorem factsF_get {l : List VStamp} {i : Nat} (hi : i < l.length) : (factsF l)[i]? = some (l.getD i default).1 := by
  rw [factsF, List.getElem?_map]; simp [List.getD, hi]
theorem factsF_take {l : List VStamp} {i : Nat} (hi : i < l.length) : (factsF l).take (i + 1) = (factsF l).take i ++ [(l.getD i default).1] := by
  rw [List.take_add_one, factsF_get hi]; rfl
theorem factsF_sz : ∀ l : List VStamp, tFcts.size (factsF l) ≤ tStamps.size l
  | [] => Nat.le_refl _
  | s :: l => by
    have := factsF_sz l
    rw [tFcts_size, tStamps_sz] at *
    show (factsF l).length + 1 + (tFct.size s.1 + listSize tFct (factsF l)) ≤ l.length + 1 + ((tFct.size s.1 + 0) + listSize tStamp l)
    omega
theorem sFactsIn.ret (l : List VStamp) (h : tStamps.size l ≤ 1048576) : sFactsIn.Ret [.list none (rows tStamp l)] (.list (some 0) (tks tFct (factsF l) 1)) (accFr (factsF l)) := by
  refine sFactsIn.of rfl ?_
  rw [tStamps_sz] at h
  have hfl := factsF_len l
  repeat' first
    | contradiction | exact trivial
    | (conv => whnf
       first | refine Need.mk (fun h => h) ?_ | refine Need.mk rfl ?_ | refine Need.mk ⟨rfl, Nat.le_of_ble_eq_true rfl⟩ ?_ | refine Need.mk (Nat.le_of_ble_eq_true rfl) ?_ | refine Need.fin ?_ | refine Need.mk ?_ ?_ | refine Ix.strsF rfl ?_ | refine Ix.strs rfl ?_ ?_ | refine Cut.strs rfl ?_ ?_ | refine Ix.mapF (fun _ => rfl) ?_ | refine Ix.map (fun _ => rfl) ?_ ?_ | refine Cut.map (fun _ => rfl) ?_ ?_ | refine Fork.yes (by assumption) ?_ | refine Fork.no (by assumption) ?_ | refine Fork.decYes (by omega) ?_ | refine Fork.decNo (by omega) ?_ | refine Fork.dec (fun _ => ?_) (fun _ => ?_) | refine Fork.bne (fun _ => ?_) (fun _ => ?_) | refine Fork.beq (fun _ => ?_) (fun _ => ?_) | refine Fork.seq (fun _ => ?_) (fun _ => ?_) | refine Fork.sne (fun _ => ?_) (fun _ => ?_) | refine Fork.neg (fun _ => ?_) (fun _ => ?_) | refine Fork.mk (fun _ => ?_) (fun _ => ?_) | refine HAlt.mk ?_ ?_ | apply HJoin.mk3 | exact HEnd.mk rfl rfl rfl | refine HEnd.mk ?_ ?_ ?_ | refine Round.mk ?_ | refine NilQ.mk (fun b hb => ?_) | refine forceK_of ?_ | refine forceBx_of ?_ | refine unG_old ?_ | refine unG_gv ?_ | refine Lit.read rfl ?_ | refine LitO.own rfl ?_ | refine FinVal.keep ?_ | refine FinAgg.keep ?_ | refine Final.mk rfl rfl | refine Final.mk ?_ rfl | refine Final.mk ?_ ?_ | refine FinalT.mk ?_ ?_ | refine FinalI.mk ?_ | refine FinalC.allA ?_)
    | refine AV.bool_congr ?_ | refine AV.int_congr ?_ | refine AV.str_congr ?_ | refine AV.list_congr ?_ | with_reducible rfl | refine fr1 ?_ | refine fr2 ?_ ?_
  refine ALoop.mk Nat (fun i => ⟨[(0, .list none (rows tStamp l)), (3, .list (some 0) (tks tFct ((factsF l).take i) 1)), (4, .val (.int .i64 i))], [], accFr ((factsF l).take i)⟩) (fun i => i ≤ l.length) (fun i => l.length - i) ⟨0, Nat.zero_le _, ?_⟩ (fun i hi => ?_)
  · repeat' first
      | exact trivial | refine Weak.mk ?_ ?_ ?_ ?_ (Or.inl (Nat.le_of_ble_eq_true rfl)) | refine Weak.mk ?_ ?_ ?_ ?_ (Or.inr ⟨(by repeat' first | exact trivial | exact Nat.le_of_ble_eq_true rfl | refine And.intro ?_ ?_), (by repeat' first | exact trivial | exact Nat.le_of_ble_eq_true rfl | refine And.intro ?_ ?_)⟩) | refine Weak.mk ?_ ?_ ?_ ?_ ?_ | refine And.intro ?_ ?_ | with_reducible rfl | exact Nat.le_of_ble_eq_true rfl | refine fr1 ?_ | refine fr2 ?_ ?_ | refine AV.int_congr ?_ | refine AV.bool_congr ?_ | refine AV.str_congr ?_ | refine AV.list_congr ?_ | refine AV.bsl_congr ?_ ?_ | (apply rfl)
  by_cases hi' : i < l.length
  rotate_left
  · repeat' first
      | contradiction | exact trivial
      | (conv => whnf
         first | refine Need.mk (fun h => h) ?_ | refine Need.mk rfl ?_ | refine Need.mk ⟨rfl, Nat.le_of_ble_eq_true rfl⟩ ?_ | refine Need.mk (Nat.le_of_ble_eq_true rfl) ?_ | refine Need.finN ?_ | refine Need.mk ?_ ?_ | refine Ix.strsN rfl ?_ | refine Ix.strs rfl ?_ ?_ | refine Cut.strs rfl ?_ ?_ | refine Ix.mapN (fun _ => rfl) ?_ | refine Ix.map (fun _ => rfl) ?_ ?_ | refine Cut.map (fun _ => rfl) ?_ ?_ | refine Fork.yes (by assumption) ?_ | refine Fork.no (by assumption) ?_ | refine Fork.decY ?_ | refine Fork.andY ?_ | refine Fork.andN ?_ | refine Fork.decN ?_ | refine Fork.dec (fun _ => ?_) (fun _ => ?_) | refine Fork.bne (fun _ => ?_) (fun _ => ?_) | refine Fork.beq (fun _ => ?_) (fun _ => ?_) | refine Fork.seq (fun _ => ?_) (fun _ => ?_) | refine Fork.sne (fun _ => ?_) (fun _ => ?_) | refine Fork.neg (fun _ => ?_) (fun _ => ?_) | refine Fork.mk (fun _ => ?_) (fun _ => ?_) | refine HAlt.mk ?_ ?_ | apply HJoin.mk3 | exact HEnd.mk rfl rfl rfl | refine HEnd.mk ?_ ?_ ?_ | refine Round.mk ?_ | refine NilQ.mk (fun b hb => ?_) | refine forceK_of ?_ | refine forceBx_of ?_ | refine unG_old ?_ | refine unG_gv ?_ | refine Lit.read rfl ?_ | refine LitO.own rfl ?_ | refine FinVal.keep ?_ | refine FinAgg.keep ?_ | refine Final.mk rfl rfl | refine Final.mk ?_ rfl | refine Final.mk ?_ ?_ | refine FinalT.mk ?_ ?_ | refine FinalI.mk ?_ | refine FinalC.allA ?_)
      | refine AV.bool_congr ?_ | refine AV.int_congr ?_ | refine AV.str_congr ?_ | refine AV.list_congr ?_ | with_reducible rfl | refine fr1 ?_ | refine fr2 ?_ ?_
    · rw [List.take_of_length_le (by omega)]
    · rw [List.take_of_length_le (by omega)]
  have hst := tStamp_le hi'
  rw [tStamp_size] at hst
  have hc := sCopy.ret (l.getD i default).1 (by omega)
  have hlt : (tks tFct ((factsF l).take i) 1).length = i := by rw [length_tks, List.length_take, hfl]; omega
  repeat' first
    | contradiction | exact trivial
    | (conv => whnf
       first | refine Need.mk (fun h => h) ?_ | refine Need.mk rfl ?_ | refine Need.mk ⟨rfl, Nat.le_of_ble_eq_true rfl⟩ ?_ | refine Need.mk (Nat.le_of_ble_eq_true rfl) ?_ | refine Need.finN ?_ | refine Need.mk ?_ ?_ | refine Ix.strsN rfl ?_ | refine Ix.strs rfl ?_ ?_ | refine Cut.strs rfl ?_ ?_ | refine Ix.mapN (fun _ => rfl) ?_ | refine Ix.map (fun _ => rfl) ?_ ?_ | refine Cut.map (fun _ => rfl) ?_ ?_ | refine Fork.yes (by assumption) ?_ | refine Fork.no (by assumption) ?_ | refine Fork.decY ?_ | refine Fork.andY ?_ | refine Fork.andN ?_ | refine Fork.decN ?_ | refine Fork.dec (fun _ => ?_) (fun _ => ?_) | refine Fork.bne (fun _ => ?_) (fun _ => ?_) | refine Fork.beq (fun _ => ?_) (fun _ => ?_) | refine Fork.seq (fun _ => ?_) (fun _ => ?_) | refine Fork.sne (fun _ => ?_) (fun _ => ?_) | refine Fork.neg (fun _ => ?_) (fun _ => ?_) | refine Fork.mk (fun _ => ?_) (fun _ => ?_) | refine HAlt.mk ?_ ?_ | apply HJoin.mk3 | exact HEnd.mk rfl rfl rfl | refine HEnd.mk ?_ ?_ ?_ | refine Round.mk ?_ | refine NilQ.mk (fun b hb => ?_) | refine forceK_of ?_ | refine forceBx_of ?_ | refine unG_old ?_ | refine unG_gv ?_ | refine Lit.read rfl ?_ | refine LitO.own rfl ?_ | refine FinVal.keep ?_ | refine FinAgg.keep ?_ | refine Final.mk rfl rfl | refine Final.mk ?_ rfl | refine Final.mk ?_ ?_ | refine FinalT.mk ?_ ?_ | refine FinalI.mk ?_ | refine FinalC.allA ?_ | refine ACall.mkFct _ _ (hc) (by repeat' first | exact SeesL.nil | refine SeesL.cons ?_ ?_ | exact SeesB.of0 (Sees0.val _) | exact SeesB.of0 (Sees0.str _) | exact SeesB.of0 (Sees0.olds _ _) | exact SeesB.of0 (Sees0.old _) | exact SeesB.of0 (Sees0.oldagg _) | exact SeesB.of0 Sees0.nil | exact Sees0.val _ | exact Sees0.str _ | exact Sees0.olds _ _ | exact Sees0.old _ | exact Sees0.oldagg _ | exact Sees0.nil | exact SeesB.of0 (Sees0.any _) | assumption | exact sees_gv _ _ _ (by assumption) (by first | assumption | exact BoxIn.last _ _ | exact BoxIn.more (BoxIn.last _ _) _) | refine SeesB.agg ?_ | refine Sees0.agg ?_ | exact SeesB.of0 (Sees0.clo SeesL.nil SeesL.nil) | exact Sees0.clo SeesL.nil SeesL.nil | exact SeesB.of0 (Sees0.list rfl) | exact Sees0.list rfl) ?_)
    | refine AV.bool_congr ?_ | refine AV.int_congr ?_ | refine AV.str_congr ?_ | refine AV.list_congr ?_ | with_reducible rfl | refine fr1 ?_ | refine fr2 ?_ ?_
  · rw [length_tks]
  · intro c hc; rw [List.mem_singleton.1 hc]; exact tFct.htk _ _
  · rw [hlt, List.length_singleton]; omega
  · refine ⟨i + 1, by omega, ?_, by omega⟩
    repeat' first
      | exact trivial | refine Weak.mk ?_ ?_ ?_ ?_ (Or.inl (Nat.le_of_ble_eq_true rfl)) | refine Weak.mk ?_ ?_ ?_ ?_ (Or.inr ⟨(by repeat' first | exact trivial | exact Nat.le_of_ble_eq_true rfl | refine And.intro ?_ ?_), (by repeat' first | exact trivial | exact Nat.le_of_ble_eq_true rfl | refine And.intro ?_ ?_)⟩) | refine Weak.mk ?_ ?_ ?_ ?_ ?_ | refine And.intro ?_ ?_ | with_reducible rfl | exact Nat.le_of_ble_eq_true rfl | refine fr1 ?_ | refine fr2 ?_ ?_ | refine AV.int_congr ?_ | refine AV.bool_congr ?_ | refine AV.str_congr ?_ | refine AV.list_congr ?_ | refine AV.bsl_congr ?_ ?_ | (apply rfl)
    · rw [factsF_take hi', ← acc_snoc]
    · rw [wrap64 (by omega) (by omega)]; rfl
    · have h1 := accFr_snoc ((factsF l).take i) (l.getD i default).1
      rw [List.length_take, hfl, Nat.min_eq_left (by omega)] at h1
      rw [factsF_take hi', ← h1, hlt]; rfl
theorem sFactsIn.own (l : List VStamp) (h : tStamps.size l ≤ 1048576) : sFactsIn.Own [.list none (rows tStamp l)] (fctsT (factsF l)) := acc_own (sFactsIn.ret l h)
def zf9 : List AV := [.str [], .val (.slice none 0 0)]
theorem pFactsIn.ret (l : List VStamp) (h : tStamps.size l ≤ 1048576) : pFactsIn.Ret [.list none (rows tStamp l)] (.list (some (frs tFct (factsF l)).length) (tks tFct (factsF l) 0)) (frs tFct (factsF l) ++ [(44, 2, l.length)]) := by
  refine pFactsIn.of rfl ?_
  rw [tStamps_sz] at h
  have hrl : ((rows tStamp l).length : Int) = l.length := by rw [length_rows]
  have hfl := factsF_len l
  repeat' first
    | contradiction | exact trivial
    | (conv => whnf
       first | refine Need.mk (fun h => h) ?_ | refine Need.mk rfl ?_ | refine Need.mk ⟨rfl, Nat.le_of_ble_eq_true rfl⟩ ?_ | refine Need.mk (Nat.le_of_ble_eq_true rfl) ?_ | refine Need.fin ?_ | refine Need.mk ?_ ?_ | refine Ix.strsF rfl ?_ | refine Ix.strs rfl ?_ ?_ | refine Cut.strs rfl ?_ ?_ | refine Ix.mapF (fun _ => rfl) ?_ | refine Ix.map (fun _ => rfl) ?_ ?_ | refine Cut.map (fun _ => rfl) ?_ ?_ | refine Fork.yes (by assumption) ?_ | refine Fork.no (by assumption) ?_ | refine Fork.decYes (by omega) ?_ | refine Fork.decNo (by omega) ?_ | refine Fork.dec (fun _ => ?_) (fun _ => ?_) | refine Fork.bne (fun _ => ?_) (fun _ => ?_) | refine Fork.beq (fun _ => ?_) (fun _ => ?_) | refine Fork.seq (fun _ => ?_) (fun _ => ?_) | refine Fork.sne (fun _ => ?_) (fun _ => ?_) | refine Fork.neg (fun _ => ?_) (fun _ => ?_) | refine Fork.mk (fun _ => ?_) (fun _ => ?_) | refine HAlt.mk ?_ ?_ | apply HJoin.mk3 | exact HEnd.mk rfl rfl rfl | refine HEnd.mk ?_ ?_ ?_ | refine Round.mk ?_ | refine NilQ.mk (fun b hb => ?_) | refine forceK_of ?_ | refine forceBx_of ?_ | refine unG_old ?_ | refine unG_gv ?_ | refine Lit.read rfl ?_ | refine LitO.own rfl ?_ | refine FinVal.keep ?_ | refine FinAgg.keep ?_ | refine Final.mk rfl rfl | refine Final.mk ?_ rfl | refine Final.mk ?_ ?_ | refine FinalT.mk ?_ ?_ | refine FinalI.mk ?_ | refine FinalC.allA ?_)
    | refine AV.bool_congr ?_ | refine AV.int_congr ?_ | refine AV.str_congr ?_ | refine AV.list_congr ?_ | with_reducible rfl | refine fr1 ?_ | refine fr2 ?_ ?_
  refine ALoop.mk Nat (fun i => ⟨[(3, .bsl 0 l.length), (9, .list none (rows tStamp l)), (10, .val (.int .i64 l.length)), (11, .val (.int .i64 i))], [.cells (.row 44 2) (part zf9 (tks tFct (factsF l) 0) i)], frs tFct ((factsF l).take i)⟩) (fun i => i ≤ l.length) (fun i => l.length - i) ⟨0, Nat.zero_le _, ?_⟩ (fun i hi => ?_)
  · repeat' first
      | exact trivial | refine Weak.mk ?_ ?_ ?_ ?_ (Or.inl (Nat.le_of_ble_eq_true rfl)) | refine Weak.mk ?_ ?_ ?_ ?_ (Or.inr ⟨(by repeat' first | exact trivial | exact Nat.le_of_ble_eq_true rfl | refine And.intro ?_ ?_), (by repeat' first | exact trivial | exact Nat.le_of_ble_eq_true rfl | refine And.intro ?_ ?_)⟩) | refine Weak.mk ?_ ?_ ?_ ?_ ?_ | refine And.intro ?_ ?_ | with_reducible rfl | exact Nat.le_of_ble_eq_true rfl | refine fr1 ?_ | refine fr2 ?_ ?_ | refine AV.int_congr ?_ | refine AV.bool_congr ?_ | refine AV.str_congr ?_ | refine AV.list_congr ?_ | refine AV.bsl_congr ?_ ?_ | (apply rfl)
    · rw [hrl, Int.toNat_natCast]
    · exact hrl
    · simp only [List.nil_append, List.cons_append, List.length_cons, List.length_nil, List.take_succ_cons, List.take_zero]
      rw [part_made (xs := tks tFct (factsF l) 0) (sz := 2) rfl (by decide) (by rw [length_tks, hfl, hrl, Int.toNat_natCast])]; rfl
  by_cases hi' : i < l.length
  rotate_left
  · have hil : i = l.length := by omega
    subst hil
    have hall := part_all zf9 (tks tFct (factsF l) 0)
    rw [length_tks, hfl] at hall
    rw [hall, List.take_of_length_le (show (factsF l).length ≤ l.length by omega)]
    repeat' first
      | contradiction | exact trivial
      | (conv => whnf
         first | refine Need.mk (fun h => h) ?_ | refine Need.mk rfl ?_ | refine Need.mk ⟨rfl, Nat.le_of_ble_eq_true rfl⟩ ?_ | refine Need.mk (Nat.le_of_ble_eq_true rfl) ?_ | refine Need.finN ?_ | refine Need.mk ?_ ?_ | refine Ix.strsN rfl ?_ | refine Ix.strs rfl ?_ ?_ | refine Cut.strs rfl ?_ ?_ | refine Ix.mapN (fun _ => rfl) ?_ | refine Ix.map (fun _ => rfl) ?_ ?_ | refine Cut.map (fun _ => rfl) ?_ ?_ | refine Fork.yes (by assumption) ?_ | refine Fork.no (by assumption) ?_ | refine Fork.decY ?_ | refine Fork.andY ?_ | refine Fork.andN ?_ | refine Fork.decN ?_ | refine Fork.dec (fun _ => ?_) (fun _ => ?_) | refine Fork.bne (fun _ => ?_) (fun _ => ?_) | refine Fork.beq (fun _ => ?_) (fun _ => ?_) | refine Fork.seq (fun _ => ?_) (fun _ => ?_) | refine Fork.sne (fun _ => ?_) (fun _ => ?_) | refine Fork.neg (fun _ => ?_) (fun _ => ?_) | refine Fork.mk (fun _ => ?_) (fun _ => ?_) | refine HAlt.mk ?_ ?_ | apply HJoin.mk3 | exact HEnd.mk rfl rfl rfl | refine HEnd.mk ?_ ?_ ?_ | refine Round.mk ?_ | refine NilQ.mk (fun b hb => ?_) | refine forceK_of ?_ | refine forceBx_of ?_ | refine unG_old ?_ | refine unG_gv ?_ | refine Lit.read rfl ?_ | refine LitO.own rfl ?_ | refine FinVal.keep ?_ | refine FinAgg.keep ?_ | refine Final.mk rfl rfl | refine Final.mk ?_ rfl | refine Final.mk ?_ ?_ | refine FinalT.mk ?_ ?_ | refine FinalI.mk ?_ | refine FinalC.allA ?_)
      | refine AV.bool_congr ?_ | refine AV.int_congr ?_ | refine AV.str_congr ?_ | refine AV.list_congr ?_ | with_reducible rfl | refine fr1 ?_ | refine fr2 ?_ ?_
    conv => whnf
    refine FreezeD.flat (Freeze.mk (tks tFct (factsF l) 0) _ 44 2 rfl rfl (by rw [length_tks, hfl]) (tks_sz tFct _ 0) (tks_nr tFct _ 0) ?_)
    repeat' first
      | contradiction | exact trivial
      | (conv => whnf
         first | refine Need.mk (fun h => h) ?_ | refine Need.mk rfl ?_ | refine Need.mk ⟨rfl, Nat.le_of_ble_eq_true rfl⟩ ?_ | refine Need.mk (Nat.le_of_ble_eq_true rfl) ?_ | refine Need.finN ?_ | refine Need.mk ?_ ?_ | refine Ix.strsN rfl ?_ | refine Ix.strs rfl ?_ ?_ | refine Cut.strs rfl ?_ ?_ | refine Ix.mapN (fun _ => rfl) ?_ | refine Ix.map (fun _ => rfl) ?_ ?_ | refine Cut.map (fun _ => rfl) ?_ ?_ | refine Fork.yes (by assumption) ?_ | refine Fork.no (by assumption) ?_ | refine Fork.decY ?_ | refine Fork.andY ?_ | refine Fork.andN ?_ | refine Fork.decN ?_ | refine Fork.dec (fun _ => ?_) (fun _ => ?_) | refine Fork.bne (fun _ => ?_) (fun _ => ?_) | refine Fork.beq (fun _ => ?_) (fun _ => ?_) | refine Fork.seq (fun _ => ?_) (fun _ => ?_) | refine Fork.sne (fun _ => ?_) (fun _ => ?_) | refine Fork.neg (fun _ => ?_) (fun _ => ?_) | refine Fork.mk (fun _ => ?_) (fun _ => ?_) | refine HAlt.mk ?_ ?_ | apply HJoin.mk3 | exact HEnd.mk rfl rfl rfl | refine HEnd.mk ?_ ?_ ?_ | refine Round.mk ?_ | refine NilQ.mk (fun b hb => ?_) | refine forceK_of ?_ | refine forceBx_of ?_ | refine unG_old ?_ | refine unG_gv ?_ | refine Lit.read rfl ?_ | refine LitO.own rfl ?_ | refine FinVal.keep ?_ | refine FinAgg.keep ?_ | refine Final.mk rfl rfl | refine Final.mk ?_ rfl | refine Final.mk ?_ ?_ | refine FinalT.mk ?_ ?_ | refine FinalI.mk ?_ | refine FinalC.allA ?_)
      | refine AV.bool_congr ?_ | refine AV.int_congr ?_ | refine AV.str_congr ?_ | refine AV.list_congr ?_ | with_reducible rfl | refine fr1 ?_ | refine fr2 ?_ ?_
  have hst := tStamp_le hi'
  rw [tStamp_size] at hst
  have hc := pcopyFact.ret (l.getD i default).1 (by omega)
  have hget := tks_get tFct 0 (factsF_get hi')
  rw [Nat.zero_add] at hget
  repeat' first
    | contradiction | exact trivial
    | (conv => whnf
       first | refine Need.mk (fun h => h) ?_ | refine Need.mk rfl ?_ | refine Need.mk ⟨rfl, Nat.le_of_ble_eq_true rfl⟩ ?_ | refine Need.mk (Nat.le_of_ble_eq_true rfl) ?_ | refine Need.finN ?_ | refine Need.mk ?_ ?_ | refine Ix.strsN rfl ?_ | refine Ix.strs rfl ?_ ?_ | refine Cut.strs rfl ?_ ?_ | refine Ix.mapN (fun _ => rfl) ?_ | refine Ix.map (fun _ => rfl) ?_ ?_ | refine Cut.map (fun _ => rfl) ?_ ?_ | refine Fork.yes (by assumption) ?_ | refine Fork.no (by assumption) ?_ | refine Fork.decY ?_ | refine Fork.andY ?_ | refine Fork.andN ?_ | refine Fork.decN ?_ | refine Fork.dec (fun _ => ?_) (fun _ => ?_) | refine Fork.bne (fun _ => ?_) (fun _ => ?_) | refine Fork.beq (fun _ => ?_) (fun _ => ?_) | refine Fork.seq (fun _ => ?_) (fun _ => ?_) | refine Fork.sne (fun _ => ?_) (fun _ => ?_) | refine Fork.neg (fun _ => ?_) (fun _ => ?_) | refine Fork.mk (fun _ => ?_) (fun _ => ?_) | refine HAlt.mk ?_ ?_ | apply HJoin.mk3 | exact HEnd.mk rfl rfl rfl | refine HEnd.mk ?_ ?_ ?_ | refine Round.mk ?_ | refine NilQ.mk (fun b hb => ?_) | refine forceK_of ?_ | refine forceBx_of ?_ | refine unG_old ?_ | refine unG_gv ?_ | refine Lit.read rfl ?_ | refine LitO.own rfl ?_ | refine FinVal.keep ?_ | refine FinAgg.keep ?_ | refine Final.mk rfl rfl | refine Final.mk ?_ rfl | refine Final.mk ?_ ?_ | refine FinalT.mk ?_ ?_ | refine FinalI.mk ?_ | refine FinalC.allA ?_ | refine ACall.mkFct _ _ (hc) (by repeat' first | exact SeesL.nil | refine SeesL.cons ?_ ?_ | exact SeesB.of0 (Sees0.val _) | exact SeesB.of0 (Sees0.str _) | exact SeesB.of0 (Sees0.olds _ _) | exact SeesB.of0 (Sees0.old _) | exact SeesB.of0 (Sees0.oldagg _) | exact SeesB.of0 Sees0.nil | exact Sees0.val _ | exact Sees0.str _ | exact Sees0.olds _ _ | exact Sees0.old _ | exact Sees0.oldagg _ | exact Sees0.nil | exact SeesB.of0 (Sees0.any _) | assumption | exact sees_gv _ _ _ (by assumption) (by first | assumption | exact BoxIn.last _ _ | exact BoxIn.more (BoxIn.last _ _) _) | refine SeesB.agg ?_ | refine Sees0.agg ?_ | exact SeesB.of0 (Sees0.clo SeesL.nil SeesL.nil) | exact Sees0.clo SeesL.nil SeesL.nil | exact SeesB.of0 (Sees0.list rfl) | exact Sees0.list rfl) ?_)
    | refine AV.bool_congr ?_ | refine AV.int_congr ?_ | refine AV.str_congr ?_ | refine AV.list_congr ?_ | with_reducible rfl | refine fr1 ?_ | refine fr2 ?_ ?_
  · rw [tFct.htk, part_len (sz := 2) rfl (tks_sz tFct _ 0) (by rw [length_tks, hfl]; omega), length_tks, hfl, Int.toNat_natCast]
    exact ⟨rfl, by omega⟩
  · refine ⟨i + 1, by omega, ?_, by omega⟩
    refine ⟨?_, ?_, ?_, Nat.le_of_ble_eq_true rfl, Or.inr ⟨?_, ?_⟩⟩
    · repeat' first
        | exact trivial | refine Weak.mk ?_ ?_ ?_ ?_ (Or.inl (Nat.le_of_ble_eq_true rfl)) | refine Weak.mk ?_ ?_ ?_ ?_ (Or.inr ⟨(by repeat' first | exact trivial | exact Nat.le_of_ble_eq_true rfl | refine And.intro ?_ ?_), (by repeat' first | exact trivial | exact Nat.le_of_ble_eq_true rfl | refine And.intro ?_ ?_)⟩) | refine Weak.mk ?_ ?_ ?_ ?_ ?_ | refine And.intro ?_ ?_ | with_reducible rfl | exact Nat.le_of_ble_eq_true rfl | refine fr1 ?_ | refine fr2 ?_ ?_ | refine AV.int_congr ?_ | refine AV.bool_congr ?_ | refine AV.str_congr ?_ | refine AV.list_congr ?_ | refine AV.bsl_congr ?_ ?_ | (apply rfl)
      rw [wrap64 (by omega) (by omega)]; rfl
    · have := part_set (z := zf9) (sz := 2) rfl (tks_sz tFct _ 0) hget
      exact congrArg (fun c => [ABox.cells (.row 44 2) c]) this
    · show frs tFct ((factsF l).take i) ++ tFct.fr (l.getD ((i : Int)).toNat default).1 = frs tFct ((factsF l).take (i + 1))
      rw [factsF_take hi', frs_append, Int.toNat_natCast]
      simp [frs]
    · exact ⟨Nat.zero_lt_one, trivial, trivial, trivial, trivial⟩
    · exact ⟨part_inT tFct 1 zf9 (by decide) _ 0 _, trivial⟩
theorem pFactsIn.own (l : List VStamp) (h : tStamps.size l ≤ 1048576) : pFactsIn.Own [.list none (rows tStamp l)] (fctsT (factsF l)) := by
  have h1 := pFactsIn.ret l h
  refine Ty.ownV tFcts (a := factsF l) rfl rfl ?_
  rw [Nat.zero_add]
  rw [← factsF_len l] at h1
  exact h1
theorem timesF_len (l : List VStamp) (fs : List Fct) : (timesF l fs).length = fs.length := by rw [timesF, List.length_map]
theorem timesF_get {l : List VStamp} {fs : List Fct} {i : Nat} (hi : i < fs.length) : (timesF l fs)[i]? = some (timeF l (fs.getD i default)) := by
  rw [timesF, List.getElem?_map]; simp [List.getD, hi]
theorem timesF_take {l : List VStamp} {fs : List Fct} {i : Nat} (hi : i < fs.length) : (timesF l fs).take (i + 1) = (timesF l fs).take i ++ [timeF l (fs.getD i default)] := by
  rw [List.take_add_one, timesF_get hi]; rfl
theorem sTimesOf.ret (l : List VStamp) (fs : List Fct) (h : tStamps.size l ≤ 1048576) (h' : tFcts.size fs ≤ 1048576) : sTimesOf.Ret [.list none (rows tStamp l), .list none (facts fs)] (.list (some 0) (rows Ty.int (timesF l fs))) [(3, 1, fs.length)] := by
  refine sTimesOf.of rfl ?_
  rw [tFcts_size] at h'
  have htl := timesF_len l fs
  repeat' first
    | contradiction | exact trivial
    | (conv => whnf
       first | refine Need.mk (fun h => h) ?_ | refine Need.mk rfl ?_ | refine Need.mk ⟨rfl, Nat.le_of_ble_eq_true rfl⟩ ?_ | refine Need.mk (Nat.le_of_ble_eq_true rfl) ?_ | refine Need.fin ?_ | refine Need.mk ?_ ?_ | refine Ix.strsF rfl ?_ | refine Ix.strs rfl ?_ ?_ | refine Cut.strs rfl ?_ ?_ | refine Ix.mapF (fun _ => rfl) ?_ | refine Ix.map (fun _ => rfl) ?_ ?_ | refine Cut.map (fun _ => rfl) ?_ ?_ | refine Fork.yes (by assumption) ?_ | refine Fork.no (by assumption) ?_ | refine Fork.decYes (by omega) ?_ | refine Fork.decNo (by omega) ?_ | refine Fork.dec (fun _ => ?_) (fun _ => ?_) | refine Fork.bne (fun _ => ?_) (fun _ => ?_) | refine Fork.beq (fun _ => ?_) (fun _ => ?_) | refine Fork.seq (fun _ => ?_) (fun _ => ?_) | refine Fork.sne (fun _ => ?_) (fun _ => ?_) | refine Fork.neg (fun _ => ?_) (fun _ => ?_) | refine Fork.mk (fun _ => ?_) (fun _ => ?_) | refine HAlt.mk ?_ ?_ | apply HJoin.mk3 | exact HEnd.mk rfl rfl rfl | refine HEnd.mk ?_ ?_ ?_ | refine Round.mk ?_ | refine NilQ.mk (fun b hb => ?_) | refine forceK_of ?_ | refine forceBx_of ?_ | refine unG_old ?_ | refine unG_gv ?_ | refine Lit.read rfl ?_ | refine LitO.own rfl ?_ | refine FinVal.keep ?_ | refine FinAgg.keep ?_ | refine Final.mk rfl rfl | refine Final.mk ?_ rfl | refine Final.mk ?_ ?_ | refine FinalT.mk ?_ ?_ | refine FinalI.mk ?_ | refine FinalC.allA ?_)
    | refine AV.bool_congr ?_ | refine AV.int_congr ?_ | refine AV.str_congr ?_ | refine AV.list_congr ?_ | with_reducible rfl | refine fr1 ?_ | refine fr2 ?_ ?_
  refine ALoop.mk Nat (fun i => ⟨[(0, .list none (rows tStamp l)), (1, .list none (facts fs)), (5, .list (some 0) (rows Ty.int ((timesF l fs).take i))), (6, .val (.int .i64 i))], [], [(3, 1, i)]⟩) (fun i => i ≤ fs.length) (fun i => fs.length - i) ⟨0, Nat.zero_le _, ?_⟩ (fun i hi => ?_)
  · repeat' first
      | exact trivial | refine Weak.mk ?_ ?_ ?_ ?_ (Or.inl (Nat.le_of_ble_eq_true rfl)) | refine Weak.mk ?_ ?_ ?_ ?_ (Or.inr ⟨(by repeat' first | exact trivial | exact Nat.le_of_ble_eq_true rfl | refine And.intro ?_ ?_), (by repeat' first | exact trivial | exact Nat.le_of_ble_eq_true rfl | refine And.intro ?_ ?_)⟩) | refine Weak.mk ?_ ?_ ?_ ?_ ?_ | refine And.intro ?_ ?_ | with_reducible rfl | exact Nat.le_of_ble_eq_true rfl | refine fr1 ?_ | refine fr2 ?_ ?_ | refine AV.int_congr ?_ | refine AV.bool_congr ?_ | refine AV.str_congr ?_ | refine AV.list_congr ?_ | refine AV.bsl_congr ?_ ?_ | (apply rfl)
  by_cases hi' : i < fs.length
  rotate_left
  · have e : i = fs.length := by omega
    subst e
    repeat' first
      | contradiction | exact trivial
      | (conv => whnf
         first | refine Need.mk (fun h => h) ?_ | refine Need.mk rfl ?_ | refine Need.mk ⟨rfl, Nat.le_of_ble_eq_true rfl⟩ ?_ | refine Need.mk (Nat.le_of_ble_eq_true rfl) ?_ | refine Need.finN ?_ | refine Need.mk ?_ ?_ | refine Ix.strsN rfl ?_ | refine Ix.strs rfl ?_ ?_ | refine Cut.strs rfl ?_ ?_ | refine Ix.mapN (fun _ => rfl) ?_ | refine Ix.map (fun _ => rfl) ?_ ?_ | refine Cut.map (fun _ => rfl) ?_ ?_ | refine Fork.yes (by assumption) ?_ | refine Fork.no (by assumption) ?_ | refine Fork.decY ?_ | refine Fork.andY ?_ | refine Fork.andN ?_ | refine Fork.decN ?_ | refine Fork.dec (fun _ => ?_) (fun _ => ?_) | refine Fork.bne (fun _ => ?_) (fun _ => ?_) | refine Fork.beq (fun _ => ?_) (fun _ => ?_) | refine Fork.seq (fun _ => ?_) (fun _ => ?_) | refine Fork.sne (fun _ => ?_) (fun _ => ?_) | refine Fork.neg (fun _ => ?_) (fun _ => ?_) | refine Fork.mk (fun _ => ?_) (fun _ => ?_) | refine HAlt.mk ?_ ?_ | apply HJoin.mk3 | exact HEnd.mk rfl rfl rfl | refine HEnd.mk ?_ ?_ ?_ | refine Round.mk ?_ | refine NilQ.mk (fun b hb => ?_) | refine forceK_of ?_ | refine forceBx_of ?_ | refine unG_old ?_ | refine unG_gv ?_ | refine Lit.read rfl ?_ | refine LitO.own rfl ?_ | refine FinVal.keep ?_ | refine FinAgg.keep ?_ | refine Final.mk rfl rfl | refine Final.mk ?_ rfl | refine Final.mk ?_ ?_ | refine FinalT.mk ?_ ?_ | refine FinalI.mk ?_ | refine FinalC.allA ?_)
      | refine AV.bool_congr ?_ | refine AV.int_congr ?_ | refine AV.str_congr ?_ | refine AV.list_congr ?_ | with_reducible rfl | refine fr1 ?_ | refine fr2 ?_ ?_
    rw [List.take_of_length_le (by omega)]
  have hst := fct_le hi'
  have hc := sTimeOf.ret l (fs.getD i default) h
  have hlt : (rows Ty.int ((timesF l fs).take i)).length = i := by rw [length_rows, List.length_take, htl]; omega
  repeat' first
    | contradiction | exact trivial
    | (conv => whnf
       first | refine Need.mk (fun h => h) ?_ | refine Need.mk rfl ?_ | refine Need.mk ⟨rfl, Nat.le_of_ble_eq_true rfl⟩ ?_ | refine Need.mk (Nat.le_of_ble_eq_true rfl) ?_ | refine Need.finN ?_ | refine Need.mk ?_ ?_ | refine Ix.strsN rfl ?_ | refine Ix.strs rfl ?_ ?_ | refine Cut.strs rfl ?_ ?_ | refine Ix.mapN (fun _ => rfl) ?_ | refine Ix.map (fun _ => rfl) ?_ ?_ | refine Cut.map (fun _ => rfl) ?_ ?_ | refine Fork.yes (by assumption) ?_ | refine Fork.no (by assumption) ?_ | refine Fork.decY ?_ | refine Fork.andY ?_ | refine Fork.andN ?_ | refine Fork.decN ?_ | refine Fork.dec (fun _ => ?_) (fun _ => ?_) | refine Fork.bne (fun _ => ?_) (fun _ => ?_) | refine Fork.beq (fun _ => ?_) (fun _ => ?_) | refine Fork.seq (fun _ => ?_) (fun _ => ?_) | refine Fork.sne (fun _ => ?_) (fun _ => ?_) | refine Fork.neg (fun _ => ?_) (fun _ => ?_) | refine Fork.mk (fun _ => ?_) (fun _ => ?_) | refine HAlt.mk ?_ ?_ | apply HJoin.mk3 | exact HEnd.mk rfl rfl rfl | refine HEnd.mk ?_ ?_ ?_ | refine Round.mk ?_ | refine NilQ.mk (fun b hb => ?_) | refine forceK_of ?_ | refine forceBx_of ?_ | refine unG_old ?_ | refine unG_gv ?_ | refine Lit.read rfl ?_ | refine LitO.own rfl ?_ | refine FinVal.keep ?_ | refine FinAgg.keep ?_ | refine Final.mk rfl rfl | refine Final.mk ?_ rfl | refine Final.mk ?_ ?_ | refine FinalT.mk ?_ ?_ | refine FinalI.mk ?_ | refine FinalC.allA ?_ | refine ACall.scalA _ _ (hc) rfl ?_ | refine AQCall.mkA _ _ (fun hg => hc) rfl ?_ | refine AGCall.mkA _ _ (fun hg => hc) rfl ?_)
    | refine AV.bool_congr ?_ | refine AV.int_congr ?_ | refine AV.str_congr ?_ | refine AV.list_congr ?_ | with_reducible rfl | refine fr1 ?_ | refine fr2 ?_ ?_
  · intro c hc; rw [List.mem_singleton.1 hc]; rfl
  · rw [hlt, List.length_singleton]; omega
  · refine ⟨i + 1, by omega, ?_, by omega⟩
    repeat' first
      | exact trivial | refine Weak.mk ?_ ?_ ?_ ?_ (Or.inl (Nat.le_of_ble_eq_true rfl)) | refine Weak.mk ?_ ?_ ?_ ?_ (Or.inr ⟨(by repeat' first | exact trivial | exact Nat.le_of_ble_eq_true rfl | refine And.intro ?_ ?_), (by repeat' first | exact trivial | exact Nat.le_of_ble_eq_true rfl | refine And.intro ?_ ?_)⟩) | refine Weak.mk ?_ ?_ ?_ ?_ ?_ | refine And.intro ?_ ?_ | with_reducible rfl | exact Nat.le_of_ble_eq_true rfl | refine fr1 ?_ | refine fr2 ?_ ?_ | refine AV.int_congr ?_ | refine AV.bool_congr ?_ | refine AV.str_congr ?_ | refine AV.list_congr ?_ | refine AV.bsl_congr ?_ ?_ | (apply rfl)
    · rw [timesF_take hi', ← rows_snoc]; rfl
    · rw [wrap64 (by omega) (by omega)]; rfl
    · rw [hlt]; rfl
theorem sTimesOf.own (l : List VStamp) (fs : List Fct) (h : tStamps.size l ≤ 1048576) (h' : tFcts.size fs ≤ 1048576) : sTimesOf.Own [.list none (rows tStamp l), .list none (facts fs)] (.l 3 1 ((timesF l fs).map Ty.int.q)) :=
  plain_own Ty.int (fun _ => rfl) (fun _ => rfl) 3 0 (by rw [timesF_len]; rfl) (sTimesOf.ret l fs h h')
def zi9 : List AV := [.val (.int .i64 0)]
theorem tks_ints (l : List Int) : tks Ty.int l 0 = rows Ty.int l := rowsP_tks Ty.int (fun _ => rfl) (fun _ => rfl) l
theorem pTimesOf.ret (l : List VStamp) (fs : List Fct) (h : tStamps.size l ≤ 1048576) (h' : tFcts.size fs ≤ 1048576) : pTimesOf.Ret [.list none (rows tStamp l), .list none (facts fs)] (.list (some 0) (rows Ty.int (timesF l fs))) [(3, 1, fs.length)] := by
  refine pTimesOf.of rfl ?_
  rw [tFcts_size] at h'
  have htl := timesF_len l fs
  have hrl : ((facts fs).length : Int) = fs.length := by rw [length_rows]
  repeat' first
    | contradiction | exact trivial
    | (conv => whnf
       first | refine Need.mk (fun h => h) ?_ | refine Need.mk rfl ?_ | refine Need.mk ⟨rfl, Nat.le_of_ble_eq_true rfl⟩ ?_ | refine Need.mk (Nat.le_of_ble_eq_true rfl) ?_ | refine Need.fin ?_ | refine Need.mk ?_ ?_ | refine Ix.strsF rfl ?_ | refine Ix.strs rfl ?_ ?_ | refine Cut.strs rfl ?_ ?_ | refine Ix.mapF (fun _ => rfl) ?_ | refine Ix.map (fun _ => rfl) ?_ ?_ | refine Cut.map (fun _ => rfl) ?_ ?_ | refine Fork.yes (by assumption) ?_ | refine Fork.no (by assumption) ?_ | refine Fork.decYes (by omega) ?_ | refine Fork.decNo (by omega) ?_ | refine Fork.dec (fun _ => ?_) (fun _ => ?_) | refine Fork.bne (fun _ => ?_) (fun _ => ?_) | refine Fork.beq (fun _ => ?_) (fun _ => ?_) | refine Fork.seq (fun _ => ?_) (fun _ => ?_) | refine Fork.sne (fun _ => ?_) (fun _ => ?_) | refine Fork.neg (fun _ => ?_) (fun _ => ?_) | refine Fork.mk (fun _ => ?_) (fun _ => ?_) | refine HAlt.mk ?_ ?_ | apply HJoin.mk3 | exact HEnd.mk rfl rfl rfl | refine HEnd.mk ?_ ?_ ?_ | refine Round.mk ?_ | refine NilQ.mk (fun b hb => ?_) | refine forceK_of ?_ | refine forceBx_of ?_ | refine unG_old ?_ | refine unG_gv ?_ | refine Lit.read rfl ?_ | refine LitO.own rfl ?_ | refine FinVal.keep ?_ | refine FinAgg.keep ?_ | refine Final.mk rfl rfl | refine Final.mk ?_ rfl | refine Final.mk ?_ ?_ | refine FinalT.mk ?_ ?_ | refine FinalI.mk ?_ | refine FinalC.allA ?_)
    | refine AV.bool_congr ?_ | refine AV.int_congr ?_ | refine AV.str_congr ?_ | refine AV.list_congr ?_ | with_reducible rfl | refine fr1 ?_ | refine fr2 ?_ ?_
  refine ALoop.mk Nat (fun i => ⟨[(0, .list none (rows tStamp l)), (5, .bsl 0 fs.length), (11, .list none (facts fs)), (12, .val (.int .i64 fs.length)), (13, .val (.int .i64 i))], [.cells (.row 3 1) (part zi9 (tks Ty.int (timesF l fs) 0) i)], []⟩) (fun i => i ≤ fs.length) (fun i => fs.length - i) ⟨0, Nat.zero_le _, ?_⟩ (fun i hi => ?_)
  · repeat' first
      | exact trivial | refine Weak.mk ?_ ?_ ?_ ?_ (Or.inl (Nat.le_of_ble_eq_true rfl)) | refine Weak.mk ?_ ?_ ?_ ?_ (Or.inr ⟨(by repeat' first | exact trivial | exact Nat.le_of_ble_eq_true rfl | refine And.intro ?_ ?_), (by repeat' first | exact trivial | exact Nat.le_of_ble_eq_true rfl | refine And.intro ?_ ?_)⟩) | refine Weak.mk ?_ ?_ ?_ ?_ ?_ | refine And.intro ?_ ?_ | with_reducible rfl | exact Nat.le_of_ble_eq_true rfl | refine fr1 ?_ | refine fr2 ?_ ?_ | refine AV.int_congr ?_ | refine AV.bool_congr ?_ | refine AV.str_congr ?_ | refine AV.list_congr ?_ | refine AV.bsl_congr ?_ ?_ | (apply rfl)
    · rw [hrl, Int.toNat_natCast]
    · exact hrl
    · simp only [List.nil_append, List.cons_append, List.length_cons, List.length_nil, List.take_succ_cons, List.take_zero]
      rw [part_made (xs := tks Ty.int (timesF l fs) 0) (sz := 1) rfl (by decide) (by rw [length_tks, htl, hrl, Int.toNat_natCast])]; rfl
  by_cases hi' : i < fs.length
  rotate_left
  · have hil : i = fs.length := by omega
    subst hil
    have hall := part_all zi9 (tks Ty.int (timesF l fs) 0)
    rw [length_tks, htl] at hall
    rw [hall]
    repeat' first
      | contradiction | exact trivial
      | (conv => whnf
         first | refine Need.mk (fun h => h) ?_ | refine Need.mk rfl ?_ | refine Need.mk ⟨rfl, Nat.le_of_ble_eq_true rfl⟩ ?_ | refine Need.mk (Nat.le_of_ble_eq_true rfl) ?_ | refine Need.finN ?_ | refine Need.mk ?_ ?_ | refine Ix.strsN rfl ?_ | refine Ix.strs rfl ?_ ?_ | refine Cut.strs rfl ?_ ?_ | refine Ix.mapN (fun _ => rfl) ?_ | refine Ix.map (fun _ => rfl) ?_ ?_ | refine Cut.map (fun _ => rfl) ?_ ?_ | refine Fork.yes (by assumption) ?_ | refine Fork.no (by assumption) ?_ | refine Fork.decY ?_ | refine Fork.andY ?_ | refine Fork.andN ?_ | refine Fork.decN ?_ | refine Fork.dec (fun _ => ?_) (fun _ => ?_) | refine Fork.bne (fun _ => ?_) (fun _ => ?_) | refine Fork.beq (fun _ => ?_) (fun _ => ?_) | refine Fork.seq (fun _ => ?_) (fun _ => ?_) | refine Fork.sne (fun _ => ?_) (fun _ => ?_) | refine Fork.neg (fun _ => ?_) (fun _ => ?_) | refine Fork.mk (fun _ => ?_) (fun _ => ?_) | refine HAlt.mk ?_ ?_ | apply HJoin.mk3 | exact HEnd.mk rfl rfl rfl | refine HEnd.mk ?_ ?_ ?_ | refine Round.mk ?_ | refine NilQ.mk (fun b hb => ?_) | refine forceK_of ?_ | refine forceBx_of ?_ | refine unG_old ?_ | refine unG_gv ?_ | refine Lit.read rfl ?_ | refine LitO.own rfl ?_ | refine FinVal.keep ?_ | refine FinAgg.keep ?_ | refine Final.mk rfl rfl | refine Final.mk ?_ rfl | refine Final.mk ?_ ?_ | refine FinalT.mk ?_ ?_ | refine FinalI.mk ?_ | refine FinalC.allA ?_)
      | refine AV.bool_congr ?_ | refine AV.int_congr ?_ | refine AV.str_congr ?_ | refine AV.list_congr ?_ | with_reducible rfl | refine fr1 ?_ | refine fr2 ?_ ?_
    conv => whnf
    refine FreezeD.flat (Freeze.mk (rows Ty.int (timesF l fs)) _ 3 1 rfl (by rw [tks_ints]) (by rw [length_rows, htl]) (by rw [← tks_ints]; exact tks_sz Ty.int _ 0) (tks_nr Ty.int _ 0) ?_)
    repeat' first
      | contradiction | exact trivial
      | (conv => whnf
         first | refine Need.mk (fun h => h) ?_ | refine Need.mk rfl ?_ | refine Need.mk ⟨rfl, Nat.le_of_ble_eq_true rfl⟩ ?_ | refine Need.mk (Nat.le_of_ble_eq_true rfl) ?_ | refine Need.finN ?_ | refine Need.mk ?_ ?_ | refine Ix.strsN rfl ?_ | refine Ix.strs rfl ?_ ?_ | refine Cut.strs rfl ?_ ?_ | refine Ix.mapN (fun _ => rfl) ?_ | refine Ix.map (fun _ => rfl) ?_ ?_ | refine Cut.map (fun _ => rfl) ?_ ?_ | refine Fork.yes (by assumption) ?_ | refine Fork.no (by assumption) ?_ | refine Fork.decY ?_ | refine Fork.andY ?_ | refine Fork.andN ?_ | refine Fork.decN ?_ | refine Fork.dec (fun _ => ?_) (fun _ => ?_) | refine Fork.bne (fun _ => ?_) (fun _ => ?_) | refine Fork.beq (fun _ => ?_) (fun _ => ?_) | refine Fork.seq (fun _ => ?_) (fun _ => ?_) | refine Fork.sne (fun _ => ?_) (fun _ => ?_) | refine Fork.neg (fun _ => ?_) (fun _ => ?_) | refine Fork.mk (fun _ => ?_) (fun _ => ?_) | refine HAlt.mk ?_ ?_ | apply HJoin.mk3 | exact HEnd.mk rfl rfl rfl | refine HEnd.mk ?_ ?_ ?_ | refine Round.mk ?_ | refine NilQ.mk (fun b hb => ?_) | refine forceK_of ?_ | refine forceBx_of ?_ | refine unG_old ?_ | refine unG_gv ?_ | refine Lit.read rfl ?_ | refine LitO.own rfl ?_ | refine FinVal.keep ?_ | refine FinAgg.keep ?_ | refine Final.mk rfl rfl | refine Final.mk ?_ rfl | refine Final.mk ?_ ?_ | refine FinalT.mk ?_ ?_ | refine FinalI.mk ?_ | refine FinalC.allA ?_)
      | refine AV.bool_congr ?_ | refine AV.int_congr ?_ | refine AV.str_congr ?_ | refine AV.list_congr ?_ | with_reducible rfl | refine fr1 ?_ | refine fr2 ?_ ?_
  have hst := fct_le hi'
  have hc := pTimeOf.ret l (fs.getD i default) h
  have hget := tks_get Ty.int 0 (timesF_get (l := l) hi')
  repeat' first
    | contradiction | exact trivial
    | (conv => whnf
       first | refine Need.mk (fun h => h) ?_ | refine Need.mk rfl ?_ | refine Need.mk ⟨rfl, Nat.le_of_ble_eq_true rfl⟩ ?_ | refine Need.mk (Nat.le_of_ble_eq_true rfl) ?_ | refine Need.finN ?_ | refine Need.mk ?_ ?_ | refine Ix.strsN rfl ?_ | refine Ix.strs rfl ?_ ?_ | refine Cut.strs rfl ?_ ?_ | refine Ix.mapN (fun _ => rfl) ?_ | refine Ix.map (fun _ => rfl) ?_ ?_ | refine Cut.map (fun _ => rfl) ?_ ?_ | refine Fork.yes (by assumption) ?_ | refine Fork.no (by assumption) ?_ | refine Fork.decY ?_ | refine Fork.andY ?_ | refine Fork.andN ?_ | refine Fork.decN ?_ | refine Fork.dec (fun _ => ?_) (fun _ => ?_) | refine Fork.bne (fun _ => ?_) (fun _ => ?_) | refine Fork.beq (fun _ => ?_) (fun _ => ?_) | refine Fork.seq (fun _ => ?_) (fun _ => ?_) | refine Fork.sne (fun _ => ?_) (fun _ => ?_) | refine Fork.neg (fun _ => ?_) (fun _ => ?_) | refine Fork.mk (fun _ => ?_) (fun _ => ?_) | refine HAlt.mk ?_ ?_ | apply HJoin.mk3 | exact HEnd.mk rfl rfl rfl | refine HEnd.mk ?_ ?_ ?_ | refine Round.mk ?_ | refine NilQ.mk (fun b hb => ?_) | refine forceK_of ?_ | refine forceBx_of ?_ | refine unG_old ?_ | refine unG_gv ?_ | refine Lit.read rfl ?_ | refine LitO.own rfl ?_ | refine FinVal.keep ?_ | refine FinAgg.keep ?_ | refine Final.mk rfl rfl | refine Final.mk ?_ rfl | refine Final.mk ?_ ?_ | refine FinalT.mk ?_ ?_ | refine FinalI.mk ?_ | refine FinalC.allA ?_ | refine ACall.scalA _ _ (hc) rfl ?_ | refine AQCall.mkA _ _ (fun hg => hc) rfl ?_ | refine AGCall.mkA _ _ (fun hg => hc) rfl ?_)
    | refine AV.bool_congr ?_ | refine AV.int_congr ?_ | refine AV.str_congr ?_ | refine AV.list_congr ?_ | with_reducible rfl | refine fr1 ?_ | refine fr2 ?_ ?_
  · rw [part_len (sz := 1) rfl (tks_sz Ty.int _ 0) (by rw [length_tks, htl]; omega), length_tks, htl, Int.toNat_natCast]
    exact ⟨rfl, by omega⟩
  · refine ⟨i + 1, by omega, ?_, by omega⟩
    refine ⟨?_, ?_, rfl, Nat.le_of_ble_eq_true rfl, Or.inr ⟨?_, ?_⟩⟩
    · repeat' first
        | exact trivial | refine Weak.mk ?_ ?_ ?_ ?_ (Or.inl (Nat.le_of_ble_eq_true rfl)) | refine Weak.mk ?_ ?_ ?_ ?_ (Or.inr ⟨(by repeat' first | exact trivial | exact Nat.le_of_ble_eq_true rfl | refine And.intro ?_ ?_), (by repeat' first | exact trivial | exact Nat.le_of_ble_eq_true rfl | refine And.intro ?_ ?_)⟩) | refine Weak.mk ?_ ?_ ?_ ?_ ?_ | refine And.intro ?_ ?_ | with_reducible rfl | exact Nat.le_of_ble_eq_true rfl | refine fr1 ?_ | refine fr2 ?_ ?_ | refine AV.int_congr ?_ | refine AV.bool_congr ?_ | refine AV.str_congr ?_ | refine AV.list_congr ?_ | refine AV.bsl_congr ?_ ?_ | (apply rfl)
      rw [wrap64 (by omega) (by omega)]; rfl
    · have := part_set (z := zi9) (sz := 1) rfl (tks_sz Ty.int _ 0) hget
      exact congrArg (fun c => [ABox.cells (.row 3 1) c]) this
    · exact ⟨trivial, Nat.zero_lt_one, trivial, trivial, trivial, trivial⟩
    · exact ⟨part_inT Ty.int 1 zi9 (by decide) _ 0 _, trivial⟩
theorem pTimesOf.own (l : List VStamp) (fs : List Fct) (h : tStamps.size l ≤ 1048576) (h' : tFcts.size fs ≤ 1048576) : pTimesOf.Own [.list none (rows tStamp l), .list none (facts fs)] (.l 3 1 ((timesF l fs).map Ty.int.q)) :=
  plain_own Ty.int (fun _ => rfl) (fun _ => rfl) 3 0 (by rw [timesF_len]; rfl) (pTimesOf.ret l fs h h')
end Go.Proofs.Ytplfkocigmnpmaa
namespace Go.Proofs.Ytplfkocigmnpmaa
open Abs
abbrev VMatch := Str × List Fct × List VPair
instance : DecidableEq VMatch := instDecidableEqProd
def tMatch : Ty VMatch := Ty.pair Ty.str (Ty.pair tFcts tPairs)
theorem tMatch_size (a : VMatch) : tMatch.size a = a.1.length + (tFcts.size a.2.1 + tPairs.size a.2.2) := rfl
theorem Abs.ACall.mk_Match {C : Con} {lend : Bool} {f : Nat} {vs : List AV} {b : List ABox} {fr : Fr} {k : AV → List ABox → Fr → Prop} (ys : List AV) (a : VMatch) (h : C.ret f ys (.agg (tMatch.tk a 0)) (tMatch.fr a)) (hv : SeesL Sees0 vs ys)
    (hk : k (.agg (tMatch.tk a fr.length)) b (fr ++ tMatch.fr a)) : ACall C lend f vs b fr k := ACall.mkA tMatch ys a h hv hk
theorem toMatch.ret (a : VMatch) (h : tMatch.size a ≤ 1048576) : toMatch.Ret [.agg (oldL (tMatch.q a))] (.agg (tMatch.tk a 0)) (tMatch.fr a) := by
  refine toMatch.of rfl ?_
  rw [tMatch_size] at h
  repeat' first
    | (conv => whnf
       first | refine Need.mk ⟨rfl, Nat.le_of_ble_eq_true rfl⟩ ?_ | refine Need.mk (Nat.le_of_ble_eq_true rfl) ?_ | refine FinAgg.keep ?_ | refine Final.mk ?_ rfl | refine ACall.mk_FactS _ _ (toFactS.ret _ ?_) (by repeat' first | exact SeesL.nil | refine SeesL.cons ?_ ?_ | exact SeesB.of0 (Sees0.val _) | exact SeesB.of0 (Sees0.str _) | exact SeesB.of0 (Sees0.olds _ _) | exact SeesB.of0 (Sees0.old _) | exact SeesB.of0 (Sees0.oldagg _) | exact SeesB.of0 Sees0.nil | exact Sees0.val _ | exact Sees0.str _ | exact Sees0.olds _ _ | exact Sees0.old _ | exact Sees0.oldagg _ | exact Sees0.nil | exact SeesB.of0 (Sees0.any _) | assumption | exact sees_gv _ _ _ (by assumption) (by first | assumption | exact BoxIn.last _ _ | exact BoxIn.more (BoxIn.last _ _) _) | refine SeesB.agg ?_ | refine Sees0.agg ?_ | exact SeesB.of0 (Sees0.clo SeesL.nil SeesL.nil) | exact Sees0.clo SeesL.nil SeesL.nil | exact SeesB.of0 (Sees0.list rfl) | exact Sees0.list rfl) ?_ | refine ACall.mk_PairS _ _ (toPairS.ret _ ?_) (by repeat' first | exact SeesL.nil | refine SeesL.cons ?_ ?_ | exact SeesB.of0 (Sees0.val _) | exact SeesB.of0 (Sees0.str _) | exact SeesB.of0 (Sees0.olds _ _) | exact SeesB.of0 (Sees0.old _) | exact SeesB.of0 (Sees0.oldagg _) | exact SeesB.of0 Sees0.nil | exact Sees0.val _ | exact Sees0.str _ | exact Sees0.olds _ _ | exact Sees0.old _ | exact Sees0.oldagg _ | exact Sees0.nil | exact SeesB.of0 (Sees0.any _) | assumption | exact sees_gv _ _ _ (by assumption) (by first | assumption | exact BoxIn.last _ _ | exact BoxIn.more (BoxIn.last _ _) _) | refine SeesB.agg ?_ | refine Sees0.agg ?_ | exact SeesB.of0 (Sees0.clo SeesL.nil SeesL.nil) | exact Sees0.clo SeesL.nil SeesL.nil | exact SeesB.of0 (Sees0.list rfl) | exact Sees0.list rfl) ?_)
  all_goals first
    | omega
    | (refine congrArg AV.agg ?_
       repeat' first
         | refine cons_congr ?_ ?_
         | refine tok_congr ?_ ?_
         | refine congrArg (tks _ _) ?_
         | rfl
       all_goals (simp [Ty.pair, Ty.str, Ty.int, Ty.bool, Nat.add_assoc, Ty.plain, tPairs]; done))
    | (simp [tMatch, Ty.pair, Ty.str, Ty.int, Ty.bool, List.append_assoc, Nat.add_assoc, Ty.plain, tPairs]; done)
theorem szMatch.ret (f : VMatch) (a : Int) (h0 : 0 ≤ a) (ha : a ≤ 1048576) (hb : tMatch.bd f) :
    szMatch.Ret [.agg (oldL (tMatch.q f)), .val (.int .i64 a)] (.val (.int .i64 (left a (tMatch.size f)))) [] := by
  refine szMatch.of rfl ?_
  have hz := tMatch_size f
  obtain ⟨hb0, hb1, hb2⟩ := hb
  have hb0 : f.1.length ≤ 9223372036854775807 := hb0
  by_cases c1 : a < (f.1.length : Int)
  · have e0 : IntKind.i64.wrap (a - (f.1.length : Int)) = a - (f.1.length : Int) := by rw [wrap64 (by omega) (by omega)]
    repeat' first
      | (conv => whnf
         first | refine Need.mk rfl ?_ | refine Fork.decYes (by omega) ?_ | refine LitO.own rfl ?_ | refine FinVal.keep ?_ | refine Final.mk ?_ rfl)
      | refine AV.int_congr ?_
    all_goals first
      | assumption
      | omega
      | exact left_eq (by omega)
  by_cases c2 : a < (f.1.length : Int) + (tFcts.size f.2.1 : Int)
  · have e0 : IntKind.i64.wrap (a - (f.1.length : Int)) = a - (f.1.length : Int) := by rw [wrap64 (by omega) (by omega)]
    have e1 : left (IntKind.i64.wrap (a - (f.1.length : Int))) (tFcts.size f.2.1) = -1 := by rw [e0, left, if_pos (by omega)]
    repeat' first
      | (conv => whnf
         first | refine Need.mk rfl ?_ | refine Fork.decYes (by omega) ?_ | refine Fork.decNo (by omega) ?_ | refine LitO.own rfl ?_ | refine FinVal.keep ?_ | refine Final.mk ?_ rfl | refine ACall.scalA _ _ (szFactS.ret _ _ ?_ ?_ ?_) rfl ?_)
      | refine AV.int_congr ?_
    all_goals first
      | assumption
      | omega
      | exact left_eq (by omega)
  by_cases c3 : a < (f.1.length : Int) + (tFcts.size f.2.1 : Int) + (tPairs.size f.2.2 : Int)
  · have e0 : IntKind.i64.wrap (a - (f.1.length : Int)) = a - (f.1.length : Int) := by rw [wrap64 (by omega) (by omega)]
    have e1 : left (IntKind.i64.wrap (a - (f.1.length : Int))) (tFcts.size f.2.1) = a - (f.1.length : Int) - (tFcts.size f.2.1 : Int) := by rw [e0, left, if_neg (by omega)]
    have e2 : left (left (IntKind.i64.wrap (a - (f.1.length : Int))) (tFcts.size f.2.1)) (tPairs.size f.2.2) = -1 := by rw [e1, left, if_pos (by omega)]
    repeat' first
      | (conv => whnf
         first | refine Need.mk rfl ?_ | refine Fork.decYes (by omega) ?_ | refine Fork.decNo (by omega) ?_ | refine LitO.own rfl ?_ | refine FinVal.keep ?_ | refine Final.mk ?_ rfl | refine ACall.scalA _ _ (szFactS.ret _ _ ?_ ?_ ?_) rfl ?_ | refine ACall.scalA _ _ (szPairS.ret _ _ ?_ ?_ ?_) rfl ?_)
      | refine AV.int_congr ?_
    all_goals first
      | assumption
      | omega
      | exact left_eq (by omega)
  have e0 : IntKind.i64.wrap (a - (f.1.length : Int)) = a - (f.1.length : Int) := by rw [wrap64 (by omega) (by omega)]
  have e1 : left (IntKind.i64.wrap (a - (f.1.length : Int))) (tFcts.size f.2.1) = a - (f.1.length : Int) - (tFcts.size f.2.1 : Int) := by rw [e0, left, if_neg (by omega)]
  have e2 : left (left (IntKind.i64.wrap (a - (f.1.length : Int))) (tFcts.size f.2.1)) (tPairs.size f.2.2) = a - (f.1.length : Int) - (tFcts.size f.2.1 : Int) - (tPairs.size f.2.2 : Int) := by rw [e1, left, if_neg (by omega)]
  repeat' first
    | (conv => whnf
       first | refine Need.mk rfl ?_ | refine Fork.decNo (by omega) ?_ | refine LitO.own rfl ?_ | refine FinVal.keep ?_ | refine Final.mk ?_ rfl | refine ACall.scalA _ _ (szFactS.ret _ _ ?_ ?_ ?_) rfl ?_ | refine ACall.scalA _ _ (szPairS.ret _ _ ?_ ?_ ?_) rfl ?_)
    | refine AV.int_congr ?_
  all_goals first
    | assumption
    | omega
    | exact left_eq (by omega)
theorem eqMatch.big (f g : VMatch) (h : tMatch.size f ≤ 1099511627775) : eqMatch.Ret [.agg (oldL (tMatch.q f)), .agg (oldL (tMatch.q g))] (.val (.bool (decide (f = g)))) [] := by
  refine eqMatch.of rfl ?_
  have hz := tMatch_size f
  repeat' first
    | (conv => whnf
       first | refine Fork.sne (fun _ => ?_) (fun _ => ?_) | refine Fork.neg (fun _ => ?_) (fun _ => ?_) | refine FinVal.keep ?_ | refine Final.mk ?_ rfl | refine ACall.scalA _ _ (eqFactS.big _ _ ?_) rfl ?_ | refine ACall.scalA _ _ (eqPairS.big _ _ ?_) rfl ?_)
    | refine AV.bool_congr ?_
  all_goals first
    | omega
    | (simp only [tStrs_size, tInts_size] at *; omega)
    | (obtain ⟨x0, x1, x2⟩ := f; obtain ⟨y0, y1, y2⟩ := g; simp_all)
end Go.Proofs.Ytplfkocigmnpmaa
namespace Go.Proofs.Ytplfkocigmnpmaa
open Abs
def slEqualI.code : ACode := (.seq (.region false [s 4 (.mv (.const (.bool false)))]) (.seq (.seq (.region false [s 6 (.mv (t 0)), s 7 (.len false (t 6)), s 8 (.mv (t 1)), s 9 (.len false (t 8)), s 10 (.bin .neq (t 7) (t 9))]) (.cond (t 10) (.seq (.region false [s 4 (.mv (.const (.bool false)))]) .ret) .skip)) (.seq (.seq (.region false [s 11 (.mv (t 0)), s 12 (.len false (t 11)), s 13 (.mv (.const (.int .i64 0)))]) (.block 0 (.loop (.seq (.region false [s 14 (.bin .lss (t 13) (t 12))]) (.seq (.cond (t 14) .skip (.exit 0)) (.seq (.block 1 (.seq (.region false [s 15 (.mv (t 13)), s 5 (.mv (t 15))]) (.seq (.region true [s 16 (.mv (t 0)), s 17 (.mv (t 5)), s 18 (.iadr 1 (t 16) (t 17)), s 19 (.load false 1 (t 18)), s 20 (.mv (t 1)), s 21 (.mv (t 5)), s 22 (.iadr 1 (t 20) (t 21)), s 23 (.load false 1 (t 22)), s 24 (.bin .neq (t 19) (t 23))]) (.cond (t 24) (.seq (.region false [s 4 (.mv (.const (.bool false)))]) .ret) .skip)))) (.region false [s 25 (.bin .add (t 13) (.const (.int .i64 1))), s 13 (.mv (t 25))]))))))) (.seq (.region false [s 4 (.mv (.const (.bool true)))]) .ret))))
def slEqualI.keep : List Nat := [0, 1, 4, 5, 12, 13, 14]
def slEqualI.res : List RRes := [.tmp 4]
theorem slEqualI.ofS {mo : Bool} {args : List AV} {r : AV} (hr : isScalR r = true) (hn : Nat.ble args.length Try.f88.ntmps = true) (h : aCode (Kn mo Try.prog) slEqualI.keep 0 slEqualI.code (doneS slEqualI.res r) ⟨argEnv 0 args, [], []⟩) : Abs.Ret mo Try.prog 88 args r [] :=
  Abs.Ret.of_irS hr Try.func88 rfl (by kernel_rfl) (Nat.le_of_ble_eq_true hn) (by kernel_rfl) (by kernel_rfl) h
abbrev slEqualI.Ret (args : List AV) (r : AV) (frs : Fr) : Prop := Abs.Ret true Try.prog 88 args r frs
end Go.Proofs.Ytplfkocigmnpmaa
namespace Go.Proofs.Ytplfkocigmnpmaa
open Abs
theorem slEqualI.ret (l m : List Int) (hl : l.length ≤ 1099511627776) : slEqualI.Ret [.list none (rows Ty.int l), .list none (rows Ty.int m)] (.val (.bool (decide (l = m)))) [] := by
  refine slEqualI.ofS rfl rfl ?_
  have e1 : (rows Ty.int l).length = l.length := length_rows _ _
  have e2 : (rows Ty.int m).length = m.length := length_rows _ _
  by_cases hlm : l.length = m.length
  rotate_left
  · have h3 : ¬ l = m := fun e => hlm (by rw [e])
    repeat' first
      | contradiction | exact trivial
      | (conv => whnf
         first | refine Need.mk (fun h => h) ?_ | refine Need.mk rfl ?_ | refine Need.mk ⟨rfl, Nat.le_of_ble_eq_true rfl⟩ ?_ | refine Need.mk (Nat.le_of_ble_eq_true rfl) ?_ | refine Need.fin ?_ | refine Need.mk ?_ ?_ | refine Ix.strsF rfl ?_ | refine Ix.strs rfl ?_ ?_ | refine Cut.strs rfl ?_ ?_ | refine Ix.mapF (fun _ => rfl) ?_ | refine Ix.map (fun _ => rfl) ?_ ?_ | refine Cut.map (fun _ => rfl) ?_ ?_ | refine Fork.yes (by assumption) ?_ | refine Fork.no (by assumption) ?_ | refine Fork.decYes (by omega) ?_ | refine Fork.decNo (by omega) ?_ | refine Fork.dec (fun _ => ?_) (fun _ => ?_) | refine Fork.bne (fun _ => ?_) (fun _ => ?_) | refine Fork.beq (fun _ => ?_) (fun _ => ?_) | refine Fork.seq (fun _ => ?_) (fun _ => ?_) | refine Fork.sne (fun _ => ?_) (fun _ => ?_) | refine Fork.neg (fun _ => ?_) (fun _ => ?_) | refine Fork.mk (fun _ => ?_) (fun _ => ?_) | refine HAlt.mk ?_ ?_ | apply HJoin.mk3 | exact HEnd.mk rfl rfl rfl | refine HEnd.mk ?_ ?_ ?_ | refine Round.mk ?_ | refine NilQ.mk (fun b hb => ?_) | refine forceK_of ?_ | refine forceBx_of ?_ | refine unG_old ?_ | refine unG_gv ?_ | refine Lit.read rfl ?_ | refine LitO.own rfl ?_ | refine FinVal.keep ?_ | refine FinAgg.keep ?_ | refine Final.mk rfl rfl | refine Final.mk ?_ rfl | refine Final.mk ?_ ?_ | refine FinalT.mk ?_ ?_ | refine FinalI.mk ?_ | refine FinalC.allA ?_)
      | refine AV.bool_congr ?_ | refine AV.int_congr ?_ | refine AV.str_congr ?_ | refine AV.list_congr ?_ | with_reducible rfl | refine fr1 ?_ | refine fr2 ?_ ?_
    · simp [h3]
    all_goals (exfalso; rename_i h9; omega)
  repeat' first
    | contradiction | exact trivial
    | (conv => whnf
       first | refine Need.mk (fun h => h) ?_ | refine Need.mk rfl ?_ | refine Need.mk ⟨rfl, Nat.le_of_ble_eq_true rfl⟩ ?_ | refine Need.mk (Nat.le_of_ble_eq_true rfl) ?_ | refine Need.fin ?_ | refine Need.mk ?_ ?_ | refine Ix.strsF rfl ?_ | refine Ix.strs rfl ?_ ?_ | refine Cut.strs rfl ?_ ?_ | refine Ix.mapF (fun _ => rfl) ?_ | refine Ix.map (fun _ => rfl) ?_ ?_ | refine Cut.map (fun _ => rfl) ?_ ?_ | refine Fork.yes (by assumption) ?_ | refine Fork.no (by assumption) ?_ | refine Fork.decYes (by omega) ?_ | refine Fork.decNo (by omega) ?_ | refine Fork.dec (fun _ => ?_) (fun _ => ?_) | refine Fork.bne (fun _ => ?_) (fun _ => ?_) | refine Fork.beq (fun _ => ?_) (fun _ => ?_) | refine Fork.seq (fun _ => ?_) (fun _ => ?_) | refine Fork.sne (fun _ => ?_) (fun _ => ?_) | refine Fork.neg (fun _ => ?_) (fun _ => ?_) | refine Fork.mk (fun _ => ?_) (fun _ => ?_) | refine HAlt.mk ?_ ?_ | apply HJoin.mk3 | exact HEnd.mk rfl rfl rfl | refine HEnd.mk ?_ ?_ ?_ | refine Round.mk ?_ | refine NilQ.mk (fun b hb => ?_) | refine forceK_of ?_ | refine forceBx_of ?_ | refine unG_old ?_ | refine unG_gv ?_ | refine Lit.read rfl ?_ | refine LitO.own rfl ?_ | refine FinVal.keep ?_ | refine FinAgg.keep ?_ | refine Final.mk rfl rfl | refine Final.mk ?_ rfl | refine Final.mk ?_ ?_ | refine FinalT.mk ?_ ?_ | refine FinalI.mk ?_ | refine FinalC.allA ?_)
    | refine AV.bool_congr ?_ | refine AV.int_congr ?_ | refine AV.str_congr ?_ | refine AV.list_congr ?_ | with_reducible rfl | refine fr1 ?_ | refine fr2 ?_ ?_
  · exfalso; rename_i h9; omega
  refine ALoop.mk Nat (fun i => ⟨[(0, .list none (rows Ty.int l)), (1, .list none (rows Ty.int m)), (12, .val (.int .i64 l.length)), (13, .val (.int .i64 i))], [], []⟩) (fun i => i ≤ l.length ∧ l.take i = m.take i) (fun i => l.length - i) ⟨0, ⟨Nat.zero_le _, rfl⟩, ?_⟩ (fun i hi => ?_)
  · repeat' first
      | exact trivial | refine Weak.mk ?_ ?_ ?_ ?_ (Or.inl (Nat.le_of_ble_eq_true rfl)) | refine Weak.mk ?_ ?_ ?_ ?_ (Or.inr ⟨(by repeat' first | exact trivial | exact Nat.le_of_ble_eq_true rfl | refine And.intro ?_ ?_), (by repeat' first | exact trivial | exact Nat.le_of_ble_eq_true rfl | refine And.intro ?_ ?_)⟩) | refine Weak.mk ?_ ?_ ?_ ?_ ?_ | refine And.intro ?_ ?_ | with_reducible rfl | exact Nat.le_of_ble_eq_true rfl | refine fr1 ?_ | refine fr2 ?_ ?_ | refine AV.int_congr ?_ | refine AV.bool_congr ?_ | refine AV.str_congr ?_ | refine AV.list_congr ?_ | refine AV.bsl_congr ?_ ?_ | (apply rfl)
    simp
  by_cases hi' : i < l.length
  rotate_left
  · have := hi.2
    rw [List.take_of_length_le (by omega), List.take_of_length_le (by omega)] at this
    repeat' first
      | contradiction | exact trivial
      | (conv => whnf
         first | refine Need.mk (fun h => h) ?_ | refine Need.mk rfl ?_ | refine Need.mk ⟨rfl, Nat.le_of_ble_eq_true rfl⟩ ?_ | refine Need.mk (Nat.le_of_ble_eq_true rfl) ?_ | refine Need.finN ?_ | refine Need.mk ?_ ?_ | refine Ix.strsN rfl ?_ | refine Ix.strs rfl ?_ ?_ | refine Cut.strs rfl ?_ ?_ | refine Ix.mapN (fun _ => rfl) ?_ | refine Ix.map (fun _ => rfl) ?_ ?_ | refine Cut.map (fun _ => rfl) ?_ ?_ | refine Fork.yes (by assumption) ?_ | refine Fork.no (by assumption) ?_ | refine Fork.decY ?_ | refine Fork.andY ?_ | refine Fork.andN ?_ | refine Fork.decN ?_ | refine Fork.dec (fun _ => ?_) (fun _ => ?_) | refine Fork.bne (fun _ => ?_) (fun _ => ?_) | refine Fork.beq (fun _ => ?_) (fun _ => ?_) | refine Fork.seq (fun _ => ?_) (fun _ => ?_) | refine Fork.sne (fun _ => ?_) (fun _ => ?_) | refine Fork.neg (fun _ => ?_) (fun _ => ?_) | refine Fork.mk (fun _ => ?_) (fun _ => ?_) | refine HAlt.mk ?_ ?_ | apply HJoin.mk3 | exact HEnd.mk rfl rfl rfl | refine HEnd.mk ?_ ?_ ?_ | refine Round.mk ?_ | refine NilQ.mk (fun b hb => ?_) | refine forceK_of ?_ | refine forceBx_of ?_ | refine unG_old ?_ | refine unG_gv ?_ | refine Lit.read rfl ?_ | refine LitO.own rfl ?_ | refine FinVal.keep ?_ | refine FinAgg.keep ?_ | refine Final.mk rfl rfl | refine Final.mk ?_ rfl | refine Final.mk ?_ ?_ | refine FinalT.mk ?_ ?_ | refine FinalI.mk ?_ | refine FinalC.allA ?_)
      | refine AV.bool_congr ?_ | refine AV.int_congr ?_ | refine AV.str_congr ?_ | refine AV.list_congr ?_ | with_reducible rfl | refine fr1 ?_ | refine fr2 ?_ ?_
    simp [this]
  repeat' first
    | contradiction | exact trivial
    | (conv => whnf
       first | refine Need.mk (fun h => h) ?_ | refine Need.mk rfl ?_ | refine Need.mk ⟨rfl, Nat.le_of_ble_eq_true rfl⟩ ?_ | refine Need.mk (Nat.le_of_ble_eq_true rfl) ?_ | refine Need.finN ?_ | refine Need.mk ?_ ?_ | refine Ix.strsN rfl ?_ | refine Ix.strs rfl ?_ ?_ | refine Cut.strs rfl ?_ ?_ | refine Ix.mapN (fun _ => rfl) ?_ | refine Ix.map (fun _ => rfl) ?_ ?_ | refine Cut.map (fun _ => rfl) ?_ ?_ | refine Fork.yes (by assumption) ?_ | refine Fork.no (by assumption) ?_ | refine Fork.decY ?_ | refine Fork.andY ?_ | refine Fork.andN ?_ | refine Fork.decN ?_ | refine Fork.dec (fun _ => ?_) (fun _ => ?_) | refine Fork.bne (fun _ => ?_) (fun _ => ?_) | refine Fork.beq (fun _ => ?_) (fun _ => ?_) | refine Fork.seq (fun _ => ?_) (fun _ => ?_) | refine Fork.sne (fun _ => ?_) (fun _ => ?_) | refine Fork.neg (fun _ => ?_) (fun _ => ?_) | refine Fork.mk (fun _ => ?_) (fun _ => ?_) | refine HAlt.mk ?_ ?_ | apply HJoin.mk3 | exact HEnd.mk rfl rfl rfl | refine HEnd.mk ?_ ?_ ?_ | refine Round.mk ?_ | refine NilQ.mk (fun b hb => ?_) | refine forceK_of ?_ | refine forceBx_of ?_ | refine unG_old ?_ | refine unG_gv ?_ | refine Lit.read rfl ?_ | refine LitO.own rfl ?_ | refine FinVal.keep ?_ | refine FinAgg.keep ?_ | refine Final.mk rfl rfl | refine Final.mk ?_ rfl | refine Final.mk ?_ ?_ | refine FinalT.mk ?_ ?_ | refine FinalI.mk ?_ | refine FinalC.allA ?_)
    | refine AV.bool_congr ?_ | refine AV.int_congr ?_ | refine AV.str_congr ?_ | refine AV.list_congr ?_ | with_reducible rfl | refine fr1 ?_ | refine fr2 ?_ ?_
  · rename_i h1
    rw [Int.toNat_natCast] at h1
    have h3 : ¬ l = m := fun e => h1 (by rw [e])
    simp [h3]
  · rename_i h1
    rw [Int.toNat_natCast] at h1
    refine ⟨i + 1, ⟨by omega, ?_⟩, ?_, by omega⟩
    · rw [take_succ' default hi', take_succ' default (by omega), hi.2, h1]
    · repeat' first
        | exact trivial | refine Weak.mk ?_ ?_ ?_ ?_ (Or.inl (Nat.le_of_ble_eq_true rfl)) | refine Weak.mk ?_ ?_ ?_ ?_ (Or.inr ⟨(by repeat' first | exact trivial | exact Nat.le_of_ble_eq_true rfl | refine And.intro ?_ ?_), (by repeat' first | exact trivial | exact Nat.le_of_ble_eq_true rfl | refine And.intro ?_ ?_)⟩) | refine Weak.mk ?_ ?_ ?_ ?_ ?_ | refine And.intro ?_ ?_ | with_reducible rfl | exact Nat.le_of_ble_eq_true rfl | refine fr1 ?_ | refine fr2 ?_ ?_ | refine AV.int_congr ?_ | refine AV.bool_congr ?_ | refine AV.str_congr ?_ | refine AV.list_congr ?_ | refine AV.bsl_congr ?_ ?_ | (apply rfl)
      rw [wrap64 (by omega) (by omega)]; rfl
end Go.Proofs.Ytplfkocigmnpmaa
