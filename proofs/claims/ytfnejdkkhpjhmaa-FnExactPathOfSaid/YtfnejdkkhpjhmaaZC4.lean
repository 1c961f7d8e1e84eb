/-
  What stands below some laws' proofs, part 4: contracts of functions, by an evaluator.
-/
import Derived.Test.YtfnejdkkhpjhmaaZC3
namespace Go.Proofs.Ytfnejdkkhpjhmaa
open Abs
/-- the way from a node down: from behind node 0 -/
def pathF (ns : List VNode) (at' : Int) : List VCond :=
  if h : 0 < at' ∧ at' < ns.length then pathF ns (if (ns.getD at'.toNat default).1 < at' then (ns.getD at'.toNat default).1 else 0) ++ [(ns.getD at'.toNat default).2.1] else []
termination_by at'.toNat
decreasing_by split <;> omega
theorem pathF_end {ns : List VNode} {k : Int} (h : ¬ (0 < k ∧ k < ns.length)) : pathF ns k = [] := by rw [pathF, dif_neg h]
theorem pathF_go {ns : List VNode} {k : Int} (h : 0 < k ∧ k < ns.length) (hp : (ns.getD k.toNat default).1 < k) : pathF ns k = pathF ns (ns.getD k.toNat default).1 ++ [(ns.getD k.toNat default).2.1] := by
  rw [pathF, dif_pos h, if_pos hp]
theorem pathF_stop {ns : List VNode} {k : Int} (h : 0 < k ∧ k < ns.length) (hp : ¬ (ns.getD k.toNat default).1 < k) : pathF ns k = [(ns.getD k.toNat default).2.1] := by
  rw [pathF, dif_pos h, if_neg hp, pathF_end (k := 0) (by omega)]; rfl
theorem pathF_len (ns : List VNode) (k : Int) : (pathF ns k).length ≤ ns.length := by
  have h : ∀ (m : Nat) (k : Int), k.toNat = m → k < ns.length → (pathF ns k).length ≤ m := fun m => by
    induction m using Nat.strongRecOn with
    | _ m ih =>
      intro k e hk
      by_cases hc : 0 < k ∧ k < ns.length
      · by_cases hp : (ns.getD k.toNat default).1 < k
        · rw [pathF_go hc hp, List.length_append, List.length_singleton]
          have := ih (ns.getD k.toNat default).1.toNat (by omega) _ rfl (by omega)
          omega
        · rw [pathF_stop hc hp, List.length_singleton]; omega
      · rw [pathF_end hc]; exact Nat.zero_le _
  by_cases hk : k < ns.length
  · have := h _ k rfl hk; omega
  · rw [pathF_end (by omega)]; exact Nat.zero_le _
/-- rows in a box, each put behind the one before: what they own, the last one first -/
structure RowR {α : Type} (T : Ty α) (F : Fr) (al : List α) (ys : List (List AV)) (ts : List Nat) : Prop where
  hl : ys.length = al.length
  hs : ∀ y ∈ ys, y.length = T.sz
  own : OwnA F (al.map T.q).flatten ys.reverse.flatten ts
  nd : ts.Nodup
theorem RowR.nil {α : Type} {T : Ty α} {F : Fr} : RowR T F [] [] [] := ⟨rfl, by simp, .nil, List.nodup_nil⟩
theorem RowR.push {α : Type} {T : Ty α} {F : Fr} {al : List α} {ys : List (List AV)} {ts : List Nat} (h : RowR T F al ys ts) (G : Fr) (a : α) (c : List AV) (us : List Nat) (ho : OwnA (F ++ G) (T.q a) c us) (hn : us.Nodup) (hd : ∀ j ∈ us, F.length ≤ j) :
    RowR T (F ++ G) (a :: al) (ys ++ [c]) (us ++ ts) where
  hl := by rw [List.length_append, h.hl]; rfl
  hs y hy := by
    rcases List.mem_append.1 hy with hy | hy
    · exact h.hs y hy
    · rw [List.mem_singleton.1 hy, ← ho.len, T.hq]
  own := by
    rw [List.map_cons, List.flatten_cons, List.reverse_append, List.reverse_singleton, List.singleton_append, List.flatten_cons]
    exact OwnA.append ho (h.own.mono fun j hj => List.getElem?_append_left (h.own.lt j hj))
  nd := List.nodup_append.2 ⟨hn, h.nd, fun a ha b hb e => by have := hd a ha; have := h.own.lt b hb; omega⟩
theorem Abs.OwnA.nr {F : Fr} {xs : List Tr} {cs : List AV} {ts : List Nat} (h : OwnA F xs cs ts) : ∀ c ∈ cs, noRef c = true := by
  have key : ∀ {us : List AV}, (∀ c ∈ us, noRef c = true) → noRef.noRefL us = true := fun h => by rw [noRefL_all, List.all_eq_true]; exact h
  have cons : ∀ {d : AV} {us : List AV}, noRef d = true → (∀ c ∈ us, noRef c = true) → ∀ c ∈ d :: us, noRef c = true := fun h1 h2 c hc => by
    rcases List.mem_cons.1 hc with rfl | hc
    · exact h1
    · exact h2 c hc
  induction h with
  | nil => exact fun c hc => by cases hc
  | v x _ _ ih => exact cons rfl ih
  | s x _ ih => exact cons rfl ih
  | nils _ _ _ ih => exact cons rfl ih
  | l _ _ _ _ _ _ _ _ _ _ _ _ ih => exact cons rfl ih
  | a _ _ _ _ ih1 ih2 => exact cons (key ih1) ih2
  | av _ _ _ _ _ _ ih => exact cons rfl ih
  | p _ _ _ _ ih1 ih2 => exact cons (key ih1) ih2
theorem RowR.nr {α : Type} {T : Ty α} {F : Fr} {al : List α} {ys : List (List AV)} {ts : List Nat} (h : RowR T F al ys ts) : ∀ c ∈ ys.flatten, noRef c = true := fun c hc => by
  refine h.own.nr c ?_
  obtain ⟨y, hy, hc⟩ := List.mem_flatten.1 hc
  exact List.mem_flatten.2 ⟨y, List.mem_reverse.2 hy, hc⟩
theorem cond_tkO (x : VCond) (F : Fr) : ∃ us, OwnA (F ++ tCond.fr x) (tCond.q x) (tCond.tk x F.length) us ∧ us.Nodup ∧ ∀ j ∈ us, F.length ≤ j := by
  obtain ⟨us, h1, h2, h3⟩ := tCond.tkOwn x (n := F.length) (F := F ++ tCond.fr x) (fun i y hi => by rw [List.getElem?_append_right (by omega), Nat.add_sub_cancel_left]; exact hi)
  exact ⟨us, h1, h2, fun j hj => (h3 j hj).1⟩
theorem renC_nil (x : VCond) : renC x [] = x := by
  have h : renF [] = id := by funext s; rfl
  rw [renC, h, List.map_id]; rfl
theorem sCopyCond.ret (x : VCond) (h : tCond.size x ≤ 1048576) : sCopyCond.Ret [.agg (oldL (tCond.q x))] (.agg (tCond.tk x 0)) (tCond.fr x) := by
  have hr := tCond_canon.retA (sRenameCond.big x [] h (Nat.zero_le _))
  rw [renC_nil] at hr
  refine sCopyCond.of rfl ?_
  repeat' first
    | contradiction | exact trivial
    | (conv => whnf
       first | refine Need.mk (fun h => h) ?_ | refine Need.mk rfl ?_ | refine Need.mk ⟨rfl, Nat.le_of_ble_eq_true rfl⟩ ?_ | refine Need.mk (Nat.le_of_ble_eq_true rfl) ?_ | refine Need.fin ?_ | refine Need.mk ?_ ?_ | refine Ix.strsF rfl ?_ | refine Ix.strs rfl ?_ ?_ | refine Cut.strs rfl ?_ ?_ | refine Ix.mapF (fun _ => rfl) ?_ | refine Ix.map (fun _ => rfl) ?_ ?_ | refine Cut.map (fun _ => rfl) ?_ ?_ | refine Fork.yes (by assumption) ?_ | refine Fork.no (by assumption) ?_ | refine Fork.decYes (by omega) ?_ | refine Fork.decNo (by omega) ?_ | refine Fork.dec (fun _ => ?_) (fun _ => ?_) | refine Fork.bne (fun _ => ?_) (fun _ => ?_) | refine Fork.beq (fun _ => ?_) (fun _ => ?_) | refine Fork.seq (fun _ => ?_) (fun _ => ?_) | refine Fork.sne (fun _ => ?_) (fun _ => ?_) | refine Fork.neg (fun _ => ?_) (fun _ => ?_) | refine Fork.mk (fun _ => ?_) (fun _ => ?_) | refine HAlt.mk ?_ ?_ | apply HJoin.mk3 | exact HEnd.mk rfl rfl rfl | refine HEnd.mk ?_ ?_ ?_ | refine Round.mk ?_ | refine NilQ.mk (fun b hb => ?_) | refine forceK_of ?_ | refine forceBx_of ?_ | refine unG_old ?_ | refine unG_gv ?_ | refine Lit.read rfl ?_ | refine LitO.own rfl ?_ | refine FinVal.keep ?_ | refine FinAgg.keep ?_ | refine Final.mk rfl rfl | refine Final.mk ?_ rfl | refine Final.mk ?_ ?_ | refine FinalT.mk ?_ ?_ | refine FinalI.mk ?_ | refine FinalC.allA ?_ | refine ACall.mk_Cond _ _ (hr) (by repeat' first | exact SeesL.nil | refine SeesL.cons ?_ ?_ | exact SeesB.of0 (Sees0.val _) | exact SeesB.of0 (Sees0.str _) | exact SeesB.of0 (Sees0.olds _ _) | exact SeesB.of0 (Sees0.old _) | exact SeesB.of0 (Sees0.oldagg _) | exact SeesB.of0 Sees0.nil | exact Sees0.val _ | exact Sees0.str _ | exact Sees0.olds _ _ | exact Sees0.old _ | exact Sees0.oldagg _ | exact Sees0.nil | exact SeesB.of0 (Sees0.any _) | assumption | exact sees_gv _ _ _ (by assumption) (by first | assumption | exact BoxIn.last _ _ | exact BoxIn.more (BoxIn.last _ _) _) | refine SeesB.agg ?_ | refine Sees0.agg ?_ | exact SeesB.of0 (Sees0.clo SeesL.nil SeesL.nil) | exact Sees0.clo SeesL.nil SeesL.nil | exact SeesB.of0 (Sees0.list rfl) | exact Sees0.list rfl) ?_)
    | refine AV.bool_congr ?_ | refine AV.int_congr ?_ | refine AV.str_congr ?_ | refine AV.list_congr ?_ | with_reducible rfl | refine fr1 ?_ | refine fr2 ?_ ?_
theorem pcopyCond.ret (x : VCond) (h : tCond.size x ≤ 1048576) : pcopyCond.Ret [.agg (oldL (tCond.q x))] (.agg (tCond.tk x 0)) (tCond.fr x) := by
  refine pcopyCond.of rfl ?_
  have hz : x.2.1.2.length ≤ 1048576 := by
    have e : tPattern.size x.2.1 = x.2.1.1.length + (x.2.1.2.length + listSize Ty.str x.2.1.2) := rfl
    rw [tCond_size] at h; omega
  repeat' first
    | contradiction | exact trivial
    | (conv => whnf
       first | refine Need.mk (fun h => h) ?_ | refine Need.mk rfl ?_ | refine Need.mk ⟨rfl, Nat.le_of_ble_eq_true rfl⟩ ?_ | refine Need.mk (Nat.le_of_ble_eq_true rfl) ?_ | refine Need.fin ?_ | refine Need.mk ?_ ?_ | refine Ix.strsF rfl ?_ | refine Ix.strs rfl ?_ ?_ | refine Cut.strs rfl ?_ ?_ | refine Ix.mapF (fun _ => rfl) ?_ | refine Ix.map (fun _ => rfl) ?_ ?_ | refine Cut.map (fun _ => rfl) ?_ ?_ | refine Fork.yes (by assumption) ?_ | refine Fork.no (by assumption) ?_ | refine Fork.decYes (by omega) ?_ | refine Fork.decNo (by omega) ?_ | refine Fork.dec (fun _ => ?_) (fun _ => ?_) | refine Fork.bne (fun _ => ?_) (fun _ => ?_) | refine Fork.beq (fun _ => ?_) (fun _ => ?_) | refine Fork.seq (fun _ => ?_) (fun _ => ?_) | refine Fork.sne (fun _ => ?_) (fun _ => ?_) | refine Fork.neg (fun _ => ?_) (fun _ => ?_) | refine Fork.mk (fun _ => ?_) (fun _ => ?_) | refine HAlt.mk ?_ ?_ | apply HJoin.mk3 | exact HEnd.mk rfl rfl rfl | refine HEnd.mk ?_ ?_ ?_ | refine Round.mk ?_ | refine NilQ.mk (fun b hb => ?_) | refine forceK_of ?_ | refine forceBx_of ?_ | refine unG_old ?_ | refine unG_gv ?_ | refine Lit.read rfl ?_ | refine LitO.own rfl ?_ | refine FinVal.keep ?_ | refine FinAgg.keep ?_ | refine Final.mk rfl rfl | refine Final.mk ?_ rfl | refine Final.mk ?_ ?_ | refine FinalT.mk ?_ ?_ | refine FinalI.mk ?_ | refine FinalC.allA ?_ | refine ACall.mkStrs _ _ (slClone.ret _ ?_) (by repeat' first | exact SeesL.nil | refine SeesL.cons ?_ ?_ | exact SeesB.of0 (Sees0.val _) | exact SeesB.of0 (Sees0.str _) | exact SeesB.of0 (Sees0.olds _ _) | exact SeesB.of0 (Sees0.old _) | exact SeesB.of0 (Sees0.oldagg _) | exact SeesB.of0 Sees0.nil | exact Sees0.val _ | exact Sees0.str _ | exact Sees0.olds _ _ | exact Sees0.old _ | exact Sees0.oldagg _ | exact Sees0.nil | exact SeesB.of0 (Sees0.any _) | assumption | exact sees_gv _ _ _ (by assumption) (by first | assumption | exact BoxIn.last _ _ | exact BoxIn.more (BoxIn.last _ _) _) | refine SeesB.agg ?_ | refine Sees0.agg ?_ | exact SeesB.of0 (Sees0.clo SeesL.nil SeesL.nil) | exact Sees0.clo SeesL.nil SeesL.nil | exact SeesB.of0 (Sees0.list rfl) | exact Sees0.list rfl) ?_)
    | refine AV.bool_congr ?_ | refine AV.int_congr ?_ | refine AV.str_congr ?_ | refine AV.list_congr ?_ | with_reducible rfl | refine fr1 ?_ | refine fr2 ?_ ?_
  exact hz
theorem Abs.aOps_mvP {C : Con} {k : Env → List ABox → Fr → Prop} {d : Nat} {x : Operand} {rest : List AO} {e : Env} {b : List ABox} {f : Fr} (h : aOps C k rest (put e (some d) (ev e x)) b f) : aOps C k (s d (.mv x) :: rest) e b f := h
/-- one more element in front, in a list of its own -/
theorem Abs.AccO.cons {α : Type} {T : Ty α} {t k : Nat} {F : Fr} {al : List α} {ys : List (List AV)} {ts : List Nat} (h : AccO T t k F al ys ts) (G : Fr) (a : α) (c : List AV) (us : List Nat) (ho : OwnA (F ++ G) (T.q a) c us) (hn : us.Nodup) (hd : ∀ j ∈ us, F.length ≤ j) :
    AccO T t (F ++ G).length ((F ++ G) ++ [(t, T.sz, al.length + 1)]) (a :: al) (c :: ys) (us ++ ts) where
  hk := by rw [List.getElem?_append_right (Nat.le_refl _), Nat.sub_self]; rfl
  hl := by rw [List.length_cons, List.length_cons, h.hl]
  hs y hy := by
    rcases List.mem_cons.1 hy with rfl | hy
    · rw [← ho.len, T.hq]
    · exact h.hs y hy
  own := by
    rw [List.map_cons, List.flatten_cons, List.flatten_cons]
    exact OwnA.append (ho.mono fun j hj => List.getElem?_append_left (ho.lt j hj)) (h.own.mono fun j hj => by
      have := h.own.lt j hj
      rw [List.getElem?_append_left (by rw [List.length_append]; omega), List.getElem?_append_left this])
  nd := List.nodup_append.2 ⟨hn, h.nd, fun a ha b hb e => by have := hd a ha; have := h.own.lt b hb; omega⟩
  kn hm := by
    rcases List.mem_append.1 hm with hm | hm
    · exact absurd (ho.lt _ hm) (Nat.lt_irrefl _)
    · have := h.own.lt _ hm
      rw [List.length_append] at this; omega
theorem RowR.fin {α : Type} {T : Ty α} {F : Fr} {al : List α} {ys : List (List AV)} {ts : List Nat} (h : RowR T F al ys ts) {t m : Nat} (hm : m = al.length) : ∃ us, OwnA (F ++ [(t, T.sz, m)]) [.l t T.sz (al.map T.q)] [.list (some F.length) ys.reverse] us ∧ us.Nodup := by
  subst hm
  refine AccO.final (ts := ts) ⟨by rw [List.getElem?_append_right (Nat.le_refl _), Nat.sub_self]; rfl, by rw [List.length_reverse, h.hl], fun y hy => h.hs y (List.mem_reverse.1 hy), h.own.mono fun j hj => List.getElem?_append_left (h.own.lt j hj), h.nd, fun hm => absurd (h.own.lt _ hm) (Nat.lt_irrefl _)⟩
theorem tNode_cond {l : List VNode} {i : Nat} (hi : i < l.length) : tCond.size (l.getD i default).2.1 ≤ listSize tNode l := by
  have h := tNode_le hi
  rw [tNode_size] at h; omega
theorem sPathOf.own (n : VNetwork) (at' : Int) (h : tNetwork.size n ≤ 1048576) : sPathOf.Own [.agg (oldL (tNetwork.q n)), .val (.int .i64 at')] (.l 83 5 ((pathF n.2.2.2.1 at').map tCond.q)) := by
  refine Own.of_irP (code := sPathOf.code) (rs := sPathOf.res) (K := sPathOf.keep) Try.func15 rfl (by kernel_rfl) (Nat.le_of_ble_eq_true rfl) (by kernel_rfl) (by kernel_rfl) ?_
  rw [tNetwork_size, tNodes_sz] at h
  have hnl : n.2.2.2.1.length ≤ 1048576 := by omega
  repeat' first
    | contradiction | exact trivial
    | (conv => whnf
       first | refine Need.mk (fun h => h) ?_ | refine Need.mk rfl ?_ | refine Need.mk ⟨rfl, Nat.le_of_ble_eq_true rfl⟩ ?_ | refine Need.mk (Nat.le_of_ble_eq_true rfl) ?_ | refine Need.fin ?_ | refine Need.mk ?_ ?_ | refine Ix.strsF rfl ?_ | refine Ix.strs rfl ?_ ?_ | refine Cut.strs rfl ?_ ?_ | refine Ix.mapF (fun _ => rfl) ?_ | refine Ix.map (fun _ => rfl) ?_ ?_ | refine Cut.map (fun _ => rfl) ?_ ?_ | refine Fork.yes (by assumption) ?_ | refine Fork.no (by assumption) ?_ | refine Fork.decYes (by omega) ?_ | refine Fork.decNo (by omega) ?_ | refine Fork.dec (fun _ => ?_) (fun _ => ?_) | refine Fork.bne (fun _ => ?_) (fun _ => ?_) | refine Fork.beq (fun _ => ?_) (fun _ => ?_) | refine Fork.seq (fun _ => ?_) (fun _ => ?_) | refine Fork.sne (fun _ => ?_) (fun _ => ?_) | refine Fork.neg (fun _ => ?_) (fun _ => ?_) | refine Fork.mk (fun _ => ?_) (fun _ => ?_) | refine HAlt.mk ?_ ?_ | apply HJoin.mk3 | exact HEnd.mk rfl rfl rfl | refine HEnd.mk ?_ ?_ ?_ | refine Round.mk ?_ | refine NilQ.mk (fun b hb => ?_) | refine forceK_of ?_ | refine forceBx_of ?_ | refine unG_old ?_ | refine unG_gv ?_ | refine Lit.read rfl ?_ | refine LitO.own rfl ?_ | refine FinVal.keep ?_ | refine FinAgg.keep ?_ | refine Final.mk rfl rfl | refine Final.mk ?_ rfl | refine Final.mk ?_ ?_ | refine FinalT.mk ?_ ?_ | refine FinalI.mk ?_ | refine FinalC.allA ?_)
    | refine AV.bool_congr ?_ | refine AV.int_congr ?_ | refine AV.str_congr ?_ | refine AV.list_congr ?_ | with_reducible rfl | refine fr1 ?_ | refine fr2 ?_ ?_
  refine ALoop.mk (Int × Nat × Fr × List VCond × List (List AV)) (fun i => ⟨[(1, .val (.int .i64 i.1)), (2, .bptr 0 0), (5, .list (some i.2.1) i.2.2.2.2)], [.cells .var (oldL (tNetwork.q n))], i.2.2.1⟩)
    (fun i => pathF n.2.2.2.1 at' = pathF n.2.2.2.1 i.1 ++ i.2.2.2.1 ∧ ∃ us, AccO tCond 83 i.2.1 i.2.2.1 i.2.2.2.1 i.2.2.2.2 us) (fun i => i.1.toNat) ⟨(at', 0, [(83, 5, 0)], [], []), ⟨(List.append_nil _).symm, [], AccO.nil rfl⟩, ?_⟩ (fun i hi => ?_)
  · repeat' first
      | exact trivial | refine Weak.mk ?_ ?_ ?_ ?_ (Or.inl (Nat.le_of_ble_eq_true rfl)) | refine Weak.mk ?_ ?_ ?_ ?_ (Or.inr ⟨(by repeat' first | exact trivial | exact Nat.le_of_ble_eq_true rfl | refine And.intro ?_ ?_), (by repeat' first | exact trivial | exact Nat.le_of_ble_eq_true rfl | refine And.intro ?_ ?_)⟩) | refine Weak.mk ?_ ?_ ?_ ?_ ?_ | refine And.intro ?_ ?_ | with_reducible rfl | exact Nat.le_of_ble_eq_true rfl | refine fr1 ?_ | refine fr2 ?_ ?_ | refine AV.int_congr ?_ | refine AV.bool_congr ?_ | refine AV.str_congr ?_ | refine AV.list_congr ?_ | refine AV.bsl_congr ?_ ?_ | (apply rfl)
  obtain ⟨k, o, F, al, ys⟩ := i
  obtain ⟨hp, us, hA⟩ := hi
  dsimp only at hp hA ⊢
  have hl : (oldLL (List.map tNode.q n.2.2.2.1)).length = n.2.2.2.1.length := by simp
  by_cases hc : 0 < k ∧ k < n.2.2.2.1.length
  rotate_left
  · have hg : (decide (1 ≤ k) && decide (k ≤ IntKind.i64.wrap (((oldLL (List.map tNode.q n.2.2.2.1)).length : Int) - 1))) = false := by
      rw [hl, wrap64 (by omega) (by omega), ← Bool.decide_and, decide_eq_false_iff_not]; omega
    repeat' first
      | contradiction | exact trivial
      | (conv => whnf
         first | refine Need.mk (fun h => h) ?_ | refine Need.mk rfl ?_ | refine Need.mk ⟨rfl, Nat.le_of_ble_eq_true rfl⟩ ?_ | refine Need.mk (Nat.le_of_ble_eq_true rfl) ?_ | refine Need.finN ?_ | refine Need.mk ?_ ?_ | refine Ix.strsN rfl ?_ | refine Ix.strs rfl ?_ ?_ | refine Cut.strs rfl ?_ ?_ | refine Ix.mapN (fun _ => rfl) ?_ | refine Ix.map (fun _ => rfl) ?_ ?_ | refine Cut.map (fun _ => rfl) ?_ ?_ | refine Fork.yes (by assumption) ?_ | refine Fork.no (by assumption) ?_ | refine Fork.decY ?_ | refine Fork.andY ?_ | refine Fork.andN ?_ | refine Fork.decN ?_ | refine Fork.dec (fun _ => ?_) (fun _ => ?_) | refine Fork.bne (fun _ => ?_) (fun _ => ?_) | refine Fork.beq (fun _ => ?_) (fun _ => ?_) | refine Fork.seq (fun _ => ?_) (fun _ => ?_) | refine Fork.sne (fun _ => ?_) (fun _ => ?_) | refine Fork.neg (fun _ => ?_) (fun _ => ?_) | refine Fork.mk (fun _ => ?_) (fun _ => ?_) | refine HAlt.mk ?_ ?_ | apply HJoin.mk3 | exact HEnd.mk rfl rfl rfl | refine HEnd.mk ?_ ?_ ?_ | refine Round.mk ?_ | refine NilQ.mk (fun b hb => ?_) | refine forceK_of ?_ | refine forceBx_of ?_ | refine unG_old ?_ | refine unG_gv ?_ | refine Lit.read rfl ?_ | refine LitO.own rfl ?_ | refine FinVal.keep ?_ | refine FinAgg.keep ?_ | refine Final.mk rfl rfl | refine Final.mk ?_ rfl | refine Final.mk ?_ ?_ | refine FinalT.mk ?_ ?_ | refine FinalI.mk ?_ | refine FinalC.allA ?_ | refine ACall.scalA _ _ (l1In.ret _ _ _) rfl ?_ | refine AQCall.mkA _ _ (fun hg => l1In.ret _ _ _) rfl ?_ | refine AGCall.mkA _ _ (fun hg => l1In.ret _ _ _) rfl ?_)
      | refine AV.bool_congr ?_ | refine AV.int_congr ?_ | refine AV.str_congr ?_ | refine AV.list_congr ?_ | with_reducible rfl | refine fr1 ?_ | refine fr2 ?_ ?_
    rw [hp, pathF_end hc, List.nil_append]
    exact hA.final
  have hg : (decide (1 ≤ k) && decide (k ≤ IntKind.i64.wrap (((oldLL (List.map tNode.q n.2.2.2.1)).length : Int) - 1))) = true := by
    rw [hl, wrap64 (by omega) (by omega), ← Bool.decide_and, decide_eq_true_eq]; omega
  have hcs := tNode_cond (l := n.2.2.2.1) (i := k.toNat) (by omega)
  have hr := sCopyCond.ret (n.2.2.2.1.getD k.toNat default).2.1 (by omega)
  repeat' first
    | contradiction | exact trivial
    | (conv => whnf
       first | refine Need.mk (fun h => h) ?_ | refine Need.mk rfl ?_ | refine Need.mk ⟨rfl, Nat.le_of_ble_eq_true rfl⟩ ?_ | refine Need.mk (Nat.le_of_ble_eq_true rfl) ?_ | refine Need.finN ?_ | refine Need.mk ?_ ?_ | refine Ix.strsN rfl ?_ | refine Ix.strs rfl ?_ ?_ | refine Cut.strs rfl ?_ ?_ | refine Ix.mapN (fun _ => rfl) ?_ | refine Ix.map (fun _ => rfl) ?_ ?_ | refine Cut.map (fun _ => rfl) ?_ ?_ | refine Fork.yes (by assumption) ?_ | refine Fork.no (by assumption) ?_ | refine Fork.decY ?_ | refine Fork.andY ?_ | refine Fork.andN ?_ | refine Fork.decN ?_ | refine Fork.dec (fun _ => ?_) (fun _ => ?_) | refine Fork.bne (fun _ => ?_) (fun _ => ?_) | refine Fork.beq (fun _ => ?_) (fun _ => ?_) | refine Fork.seq (fun _ => ?_) (fun _ => ?_) | refine Fork.sne (fun _ => ?_) (fun _ => ?_) | refine Fork.neg (fun _ => ?_) (fun _ => ?_) | refine Fork.mk (fun _ => ?_) (fun _ => ?_) | refine HAlt.mk ?_ ?_ | apply HJoin.mk3 | exact HEnd.mk rfl rfl rfl | refine HEnd.mk ?_ ?_ ?_ | refine Round.mk ?_ | refine NilQ.mk (fun b hb => ?_) | refine forceK_of ?_ | refine forceBx_of ?_ | refine unG_old ?_ | refine unG_gv ?_ | refine Lit.read rfl ?_ | refine LitO.own rfl ?_ | refine FinVal.keep ?_ | refine FinAgg.keep ?_ | refine Final.mk rfl rfl | refine Final.mk ?_ rfl | refine Final.mk ?_ ?_ | refine FinalT.mk ?_ ?_ | refine FinalI.mk ?_ | refine FinalC.allA ?_ | refine ACall.scalA _ _ (l1In.ret _ _ _) rfl ?_ | refine AQCall.mkA _ _ (fun hg => l1In.ret _ _ _) rfl ?_ | refine AGCall.mkA _ _ (fun hg => l1In.ret _ _ _) rfl ?_ | refine ACall.mk_Cond _ _ (hr) (by repeat' first | exact SeesL.nil | refine SeesL.cons ?_ ?_ | exact SeesB.of0 (Sees0.val _) | exact SeesB.of0 (Sees0.str _) | exact SeesB.of0 (Sees0.olds _ _) | exact SeesB.of0 (Sees0.old _) | exact SeesB.of0 (Sees0.oldagg _) | exact SeesB.of0 Sees0.nil | exact Sees0.val _ | exact Sees0.str _ | exact Sees0.olds _ _ | exact Sees0.old _ | exact Sees0.oldagg _ | exact Sees0.nil | exact SeesB.of0 (Sees0.any _) | assumption | exact sees_gv _ _ _ (by assumption) (by first | assumption | exact BoxIn.last _ _ | exact BoxIn.more (BoxIn.last _ _) _) | refine SeesB.agg ?_ | refine Sees0.agg ?_ | exact SeesB.of0 (Sees0.clo SeesL.nil SeesL.nil) | exact Sees0.clo SeesL.nil SeesL.nil | exact SeesB.of0 (Sees0.list rfl) | exact Sees0.list rfl) ?_)
    | refine AV.bool_congr ?_ | refine AV.int_congr ?_ | refine AV.str_congr ?_ | refine AV.list_congr ?_ | with_reducible rfl | refine fr1 ?_ | refine fr2 ?_ ?_
  · intro _; omega
  obtain ⟨vs, ho, hn, hd⟩ := cond_tkO (n.2.2.2.1.getD k.toNat default).2.1 F
  have hB := hA.cons (tCond.fr (n.2.2.2.1.getD k.toNat default).2.1) (n.2.2.2.1.getD k.toNat default).2.1 _ vs ho hn hd
  refine aOps_mvP ?_
  refine aOps_append (o := some o) rfl rfl ?_ ?_ ?_ ?_
  · rw [List.getElem?_append_right (Nat.le_refl _), Nat.sub_self]; rfl
  · exact hA.hs
  · have h1 := pathF_len n.2.2.2.1 at'
    rw [hp, List.length_append] at h1
    rw [List.length_singleton, hA.hl]; omega
  have hset : (F ++ tCond.fr (n.2.2.2.1.getD k.toNat default).2.1 ++ [(83, 5, 1)]).set (F ++ tCond.fr (n.2.2.2.1.getD k.toNat default).2.1).length (83, 5, 1 + ys.length) = (F ++ tCond.fr (n.2.2.2.1.getD k.toNat default).2.1) ++ [(83, tCond.sz, al.length + 1)] := by
    rw [List.set_append_right _ _ (Nat.le_refl _), Nat.sub_self, hA.hl, Nat.add_comm]; rfl
  repeat' first
    | contradiction | exact trivial
    | (conv => whnf
       first | refine Need.mk (fun h => h) ?_ | refine Need.mk rfl ?_ | refine Need.mk ⟨rfl, Nat.le_of_ble_eq_true rfl⟩ ?_ | refine Need.mk (Nat.le_of_ble_eq_true rfl) ?_ | refine Need.finN ?_ | refine Need.mk ?_ ?_ | refine Ix.strsN rfl ?_ | refine Ix.strs rfl ?_ ?_ | refine Cut.strs rfl ?_ ?_ | refine Ix.mapN (fun _ => rfl) ?_ | refine Ix.map (fun _ => rfl) ?_ ?_ | refine Cut.map (fun _ => rfl) ?_ ?_ | refine Fork.yes (by assumption) ?_ | refine Fork.no (by assumption) ?_ | refine Fork.decY ?_ | refine Fork.andY ?_ | refine Fork.andN ?_ | refine Fork.decN ?_ | refine Fork.dec (fun _ => ?_) (fun _ => ?_) | refine Fork.bne (fun _ => ?_) (fun _ => ?_) | refine Fork.beq (fun _ => ?_) (fun _ => ?_) | refine Fork.seq (fun _ => ?_) (fun _ => ?_) | refine Fork.sne (fun _ => ?_) (fun _ => ?_) | refine Fork.neg (fun _ => ?_) (fun _ => ?_) | refine Fork.mk (fun _ => ?_) (fun _ => ?_) | refine HAlt.mk ?_ ?_ | apply HJoin.mk3 | exact HEnd.mk rfl rfl rfl | refine HEnd.mk ?_ ?_ ?_ | refine Round.mk ?_ | refine NilQ.mk (fun b hb => ?_) | refine forceK_of ?_ | refine forceBx_of ?_ | refine unG_old ?_ | refine unG_gv ?_ | refine Lit.read rfl ?_ | refine LitO.own rfl ?_ | refine FinVal.keep ?_ | refine FinAgg.keep ?_ | refine Final.mk rfl rfl | refine Final.mk ?_ rfl | refine Final.mk ?_ ?_ | refine FinalT.mk ?_ ?_ | refine FinalI.mk ?_ | refine FinalC.allA ?_)
    | refine AV.bool_congr ?_ | refine AV.int_congr ?_ | refine AV.str_congr ?_ | refine AV.list_congr ?_ | with_reducible rfl | refine fr1 ?_ | refine fr2 ?_ ?_
  · intro _; omega
  · rename_i hx
    repeat' first
      | contradiction | exact trivial
      | (conv => whnf
         first | refine Need.mk (fun h => h) ?_ | refine Need.mk rfl ?_ | refine Need.mk ⟨rfl, Nat.le_of_ble_eq_true rfl⟩ ?_ | refine Need.mk (Nat.le_of_ble_eq_true rfl) ?_ | refine Need.finN ?_ | refine Need.mk ?_ ?_ | refine Ix.strsN rfl ?_ | refine Ix.strs rfl ?_ ?_ | refine Cut.strs rfl ?_ ?_ | refine Ix.mapN (fun _ => rfl) ?_ | refine Ix.map (fun _ => rfl) ?_ ?_ | refine Cut.map (fun _ => rfl) ?_ ?_ | refine Fork.yes (by assumption) ?_ | refine Fork.no (by assumption) ?_ | refine Fork.decY ?_ | refine Fork.andY ?_ | refine Fork.andN ?_ | refine Fork.decN ?_ | refine Fork.dec (fun _ => ?_) (fun _ => ?_) | refine Fork.bne (fun _ => ?_) (fun _ => ?_) | refine Fork.beq (fun _ => ?_) (fun _ => ?_) | refine Fork.seq (fun _ => ?_) (fun _ => ?_) | refine Fork.sne (fun _ => ?_) (fun _ => ?_) | refine Fork.neg (fun _ => ?_) (fun _ => ?_) | refine Fork.mk (fun _ => ?_) (fun _ => ?_) | refine HAlt.mk ?_ ?_ | apply HJoin.mk3 | exact HEnd.mk rfl rfl rfl | refine HEnd.mk ?_ ?_ ?_ | refine Round.mk ?_ | refine NilQ.mk (fun b hb => ?_) | refine forceK_of ?_ | refine forceBx_of ?_ | refine unG_old ?_ | refine unG_gv ?_ | refine Lit.read rfl ?_ | refine LitO.own rfl ?_ | refine FinVal.keep ?_ | refine FinAgg.keep ?_ | refine Final.mk rfl rfl | refine Final.mk ?_ rfl | refine Final.mk ?_ ?_ | refine FinalT.mk ?_ ?_ | refine FinalI.mk ?_ | refine FinalC.allA ?_)
      | refine AV.bool_congr ?_ | refine AV.int_congr ?_ | refine AV.str_congr ?_ | refine AV.list_congr ?_ | with_reducible rfl | refine fr1 ?_ | refine fr2 ?_ ?_
    rw [hp, pathF_stop hc (by omega), List.singleton_append]
    exact hset ▸ hB.final
  · rename_i hx
    refine ⟨((n.2.2.2.1.getD k.toNat default).1, _, _, _, _), ⟨?_, _, hB⟩, ?_, by dsimp only; omega⟩
    · dsimp only
      rw [hp, pathF_go hc (by omega), List.append_assoc]; rfl
    · repeat' first
        | exact trivial | refine Weak.mk ?_ ?_ ?_ ?_ (Or.inl (Nat.le_of_ble_eq_true rfl)) | refine Weak.mk ?_ ?_ ?_ ?_ (Or.inr ⟨(by repeat' first | exact trivial | exact Nat.le_of_ble_eq_true rfl | refine And.intro ?_ ?_), (by repeat' first | exact trivial | exact Nat.le_of_ble_eq_true rfl | refine And.intro ?_ ?_)⟩) | refine Weak.mk ?_ ?_ ?_ ?_ ?_ | refine And.intro ?_ ?_ | with_reducible rfl | exact Nat.le_of_ble_eq_true rfl | refine fr1 ?_ | refine fr2 ?_ ?_ | refine AV.int_congr ?_ | refine AV.bool_congr ?_ | refine AV.str_congr ?_ | refine AV.list_congr ?_ | refine AV.bsl_congr ?_ ?_ | (apply rfl)
      exact hset
theorem slReverseC.ins (b : List ABox) (f : Fr) (j : Nat) (es : List (List AV)) (hj : b[j]? = some (.cells (.row 83 5) es.flatten)) (hs : ∀ e ∈ es, e.length = 5) (hn : es.length ≤ 1048576) :
    slReverseC.Ins b f [.bsl j es.length] (fun r b1 f1 => r = .tup [] ∧ b1 = b.set j (.cells (.row 83 5) es.reverse.flatten) ∧ f1 = f) :=
  rev_ins (fS := 57) 5 83 (by kernel_rfl) b f j es hj hs
    (fun ι _ enc blk cap d w hk h1 hds hH => AnyQ.slices_Reverse Try.revC 5 Try.isAgg83 Try.sizeOf83 enc hk h1 blk 0 cap d w hH (by omega))
    (fun a cap w => AnyQ.slices_Reverse_empty Try.revC a cap w)
theorem pPathOf.own (n : VNetwork) (at' : Int) (h : tNetwork.size n ≤ 1048576) : pPathOf.Own [.agg (oldL (tNetwork.q n)), .val (.int .i64 at')] (.l 83 5 ((pathF n.2.2.2.1 at').map tCond.q)) := by
  refine Own.of_irP (code := pPathOf.code) (rs := pPathOf.res) (K := pPathOf.keep) Try.func17 rfl (by kernel_rfl) (Nat.le_of_ble_eq_true rfl) (by kernel_rfl) (by kernel_rfl) ?_
  rw [tNetwork_size, tNodes_sz] at h
  have hnl : n.2.2.2.1.length ≤ 1048576 := by omega
  have hl : (oldLL (List.map tNode.q n.2.2.2.1)).length = n.2.2.2.1.length := by simp
  repeat' first
    | contradiction | exact trivial
    | (conv => whnf
       first | refine Need.mk (fun h => h) ?_ | refine Need.mk rfl ?_ | refine Need.mk ⟨rfl, Nat.le_of_ble_eq_true rfl⟩ ?_ | refine Need.mk (Nat.le_of_ble_eq_true rfl) ?_ | refine Need.fin ?_ | refine Need.mk ?_ ?_ | refine Ix.strsF rfl ?_ | refine Ix.strs rfl ?_ ?_ | refine Cut.strs rfl ?_ ?_ | refine Ix.mapF (fun _ => rfl) ?_ | refine Ix.map (fun _ => rfl) ?_ ?_ | refine Cut.map (fun _ => rfl) ?_ ?_ | refine Fork.yes (by assumption) ?_ | refine Fork.no (by assumption) ?_ | refine Fork.decYes (by omega) ?_ | refine Fork.decNo (by omega) ?_ | refine Fork.dec (fun _ => ?_) (fun _ => ?_) | refine Fork.bne (fun _ => ?_) (fun _ => ?_) | refine Fork.beq (fun _ => ?_) (fun _ => ?_) | refine Fork.seq (fun _ => ?_) (fun _ => ?_) | refine Fork.sne (fun _ => ?_) (fun _ => ?_) | refine Fork.neg (fun _ => ?_) (fun _ => ?_) | refine Fork.mk (fun _ => ?_) (fun _ => ?_) | refine HAlt.mk ?_ ?_ | apply HJoin.mk3 | exact HEnd.mk rfl rfl rfl | refine HEnd.mk ?_ ?_ ?_ | refine Round.mk ?_ | refine NilQ.mk (fun b hb => ?_) | refine forceK_of ?_ | refine forceBx_of ?_ | refine unG_old ?_ | refine unG_gv ?_ | refine Lit.read rfl ?_ | refine LitO.box ?_ | refine FinVal.keep ?_ | refine FinAgg.keep ?_ | refine Final.mk rfl rfl | refine Final.mk ?_ rfl | refine Final.mk ?_ ?_ | refine FinalT.mk ?_ ?_ | refine FinalI.mk ?_ | refine FinalC.allA ?_)
    | refine AV.bool_congr ?_ | refine AV.int_congr ?_ | refine AV.str_congr ?_ | refine AV.list_congr ?_ | with_reducible rfl | refine fr1 ?_ | refine fr2 ?_ ?_
  refine ALoop.ren (Int × Int × Nat × Fr × List VCond × List (List AV)) (fun i => ⟨[(2, .bptr 0 0), (5, .bsl 1 i.2.2.1), (6, .val (.int .i64 i.1)), (7, .val (.int .i64 i.2.1))], [.cells .var (oldL (tNetwork.q n)), .cells (.row 83 5) i.2.2.2.2.2.flatten], i.2.2.2.1⟩)
    (fun i => i.2.1 ≤ n.2.2.2.1.length ∧ pathF n.2.2.2.1 at' = (if i.1 < i.2.1 then pathF n.2.2.2.1 i.1 else []) ++ i.2.2.2.2.1 ∧ i.2.2.1 = i.2.2.2.2.2.length ∧ ∃ ts, RowR tCond i.2.2.2.1 i.2.2.2.2.1 i.2.2.2.2.2 ts) (fun i => if i.1 < i.2.1 then i.1.toNat + 1 else 0) ⟨(at', (oldLL (List.map tNode.q n.2.2.2.1)).length, 0, [], [], []), ⟨by dsimp only; omega, ?_, rfl, [], .nil⟩, ?_⟩ (fun i hi => ?_)
  · dsimp only
    split
    · rw [List.append_nil]
    · rw [pathF_end (by omega)]; rfl
  · refine ⟨[0, 1], ?_, ?_, ?_, ⟨Nat.le_of_ble_eq_true rfl, rfl⟩, by decide, ?_⟩
    · repeat' first
        | exact trivial
        | refine And.intro ?_ ?_
        | with_reducible rfl
        | refine AV.int_congr ?_
        | refine AV.bool_congr ?_
        | refine AV.str_congr ?_
        | refine AV.list_congr ?_
        | (apply rfl)
    · exact ⟨⟨_, rfl, .cells _ _ (nr_oldL _)⟩, ⟨_, rfl, .cells _ _ rfl⟩, trivial⟩
    · rfl
    · exact ⟨⟨Nat.zero_lt_succ _, Nat.lt_succ_self 1, trivial, trivial, trivial⟩, inBL_nr (nr_oldL _), trivial, trivial⟩
  obtain ⟨k, w, m, F, al, ys⟩ := i
  obtain ⟨hw, hp, hm, ts, hR⟩ := hi
  dsimp only at hw hp hm hR ⊢
  by_cases hc : 0 < k ∧ k < w
  rotate_left
  · have hp' : pathF n.2.2.2.1 at' = al := by
      rw [hp]; split
      · rw [pathF_end (by omega)]; rfl
      · rfl
    have hg : (decide (0 < k) && decide (k < w)) = false := by
      rw [← Bool.decide_and, decide_eq_false_iff_not]; exact hc
    have hal : ys.length ≤ 1048576 := by
      have h1 := pathF_len n.2.2.2.1 at'
      rw [hp', ← hR.hl] at h1; omega
    repeat' first
      | contradiction | exact trivial
      | (conv => whnf
         first | refine Need.mk (fun h => h) ?_ | refine Need.mk rfl ?_ | refine Need.mk ⟨rfl, Nat.le_of_ble_eq_true rfl⟩ ?_ | refine Need.mk (Nat.le_of_ble_eq_true rfl) ?_ | refine Need.finN ?_ | refine Need.mk ?_ ?_ | refine Ix.strsN rfl ?_ | refine Ix.strs rfl ?_ ?_ | refine Cut.strs rfl ?_ ?_ | refine Ix.mapN (fun _ => rfl) ?_ | refine Ix.map (fun _ => rfl) ?_ ?_ | refine Cut.map (fun _ => rfl) ?_ ?_ | refine Fork.yes (by assumption) ?_ | refine Fork.no (by assumption) ?_ | refine Fork.decY ?_ | refine Fork.andY ?_ | refine Fork.andN ?_ | refine Fork.decN ?_ | refine Fork.dec (fun _ => ?_) (fun _ => ?_) | refine Fork.bne (fun _ => ?_) (fun _ => ?_) | refine Fork.beq (fun _ => ?_) (fun _ => ?_) | refine Fork.seq (fun _ => ?_) (fun _ => ?_) | refine Fork.sne (fun _ => ?_) (fun _ => ?_) | refine Fork.neg (fun _ => ?_) (fun _ => ?_) | refine Fork.mk (fun _ => ?_) (fun _ => ?_) | refine HAlt.mk ?_ ?_ | apply HJoin.mk3 | exact HEnd.mk rfl rfl rfl | refine HEnd.mk ?_ ?_ ?_ | refine Round.mk ?_ | refine NilQ.mk (fun b hb => ?_) | refine forceK_of ?_ | refine forceBx_of ?_ | refine unG_old ?_ | refine unG_gv ?_ | refine Lit.read rfl ?_ | refine LitO.own rfl ?_ | refine FinVal.keep ?_ | refine FinAgg.keep ?_ | refine Final.mk rfl rfl | refine Final.mk ?_ rfl | refine Final.mk ?_ ?_ | refine FinalT.mk ?_ ?_ | refine FinalI.mk ?_ | refine FinalC.allA ?_)
      | refine AV.bool_congr ?_ | refine AV.int_congr ?_ | refine AV.str_congr ?_ | refine AV.list_congr ?_ | with_reducible rfl | refine fr1 ?_ | refine fr2 ?_ ?_
    subst hm
    repeat' first
      | contradiction | exact trivial
      | (conv => whnf
         first | refine Need.mk (fun h => h) ?_ | refine Need.mk rfl ?_ | refine Need.mk ⟨rfl, Nat.le_of_ble_eq_true rfl⟩ ?_ | refine Need.mk (Nat.le_of_ble_eq_true rfl) ?_ | refine Need.finN ?_ | refine Need.mk ?_ ?_ | refine Ix.strsN rfl ?_ | refine Ix.strs rfl ?_ ?_ | refine Cut.strs rfl ?_ ?_ | refine Ix.mapN (fun _ => rfl) ?_ | refine Ix.map (fun _ => rfl) ?_ ?_ | refine Cut.map (fun _ => rfl) ?_ ?_ | refine Fork.yes (by assumption) ?_ | refine Fork.no (by assumption) ?_ | refine Fork.decY ?_ | refine Fork.andY ?_ | refine Fork.andN ?_ | refine Fork.decN ?_ | refine Fork.dec (fun _ => ?_) (fun _ => ?_) | refine Fork.bne (fun _ => ?_) (fun _ => ?_) | refine Fork.beq (fun _ => ?_) (fun _ => ?_) | refine Fork.seq (fun _ => ?_) (fun _ => ?_) | refine Fork.sne (fun _ => ?_) (fun _ => ?_) | refine Fork.neg (fun _ => ?_) (fun _ => ?_) | refine Fork.mk (fun _ => ?_) (fun _ => ?_) | refine HAlt.mk ?_ ?_ | apply HJoin.mk3 | exact HEnd.mk rfl rfl rfl | refine HEnd.mk ?_ ?_ ?_ | refine Round.mk ?_ | refine NilQ.mk (fun b hb => ?_) | refine forceK_of ?_ | refine forceBx_of ?_ | refine unG_old ?_ | refine unG_gv ?_ | refine Lit.read rfl ?_ | refine LitO.own rfl ?_ | refine FinVal.keep ?_ | refine FinAgg.keep ?_ | refine Final.mk rfl rfl | refine Final.mk ?_ rfl | refine Final.mk ?_ ?_ | refine FinalT.mk ?_ ?_ | refine FinalI.mk ?_ | refine FinalC.allA ?_ | refine ACall.insE _ _ _ (slReverseC.ins _ _ _ _ ?_ ?_ ?_) rfl ?_)
      | refine AV.bool_congr ?_ | refine AV.int_congr ?_ | refine AV.str_congr ?_ | refine AV.list_congr ?_ | with_reducible rfl | refine fr1 ?_ | refine fr2 ?_ ?_
    · rfl
    · exact hR.hs
    · exact hal
    repeat' first
      | contradiction | exact trivial
      | (conv => whnf
         first | refine Need.mk (fun h => h) ?_ | refine Need.mk rfl ?_ | refine Need.mk ⟨rfl, Nat.le_of_ble_eq_true rfl⟩ ?_ | refine Need.mk (Nat.le_of_ble_eq_true rfl) ?_ | refine Need.finN ?_ | refine Need.mk ?_ ?_ | refine Ix.strsN rfl ?_ | refine Ix.strs rfl ?_ ?_ | refine Cut.strs rfl ?_ ?_ | refine Ix.mapN (fun _ => rfl) ?_ | refine Ix.map (fun _ => rfl) ?_ ?_ | refine Cut.map (fun _ => rfl) ?_ ?_ | refine Fork.yes (by assumption) ?_ | refine Fork.no (by assumption) ?_ | refine Fork.decY ?_ | refine Fork.andY ?_ | refine Fork.andN ?_ | refine Fork.decN ?_ | refine Fork.dec (fun _ => ?_) (fun _ => ?_) | refine Fork.bne (fun _ => ?_) (fun _ => ?_) | refine Fork.beq (fun _ => ?_) (fun _ => ?_) | refine Fork.seq (fun _ => ?_) (fun _ => ?_) | refine Fork.sne (fun _ => ?_) (fun _ => ?_) | refine Fork.neg (fun _ => ?_) (fun _ => ?_) | refine Fork.mk (fun _ => ?_) (fun _ => ?_) | refine HAlt.mk ?_ ?_ | apply HJoin.mk3 | exact HEnd.mk rfl rfl rfl | refine HEnd.mk ?_ ?_ ?_ | refine Round.mk ?_ | refine NilQ.mk (fun b hb => ?_) | refine forceK_of ?_ | refine forceBx_of ?_ | refine unG_old ?_ | refine unG_gv ?_ | refine Lit.read rfl ?_ | refine LitO.own rfl ?_ | refine FinVal.keep ?_ | refine FinAgg.keep ?_ | refine Final.mk rfl rfl | refine Final.mk ?_ rfl | refine Final.mk ?_ ?_ | refine FinalT.mk ?_ ?_ | refine FinalI.mk ?_ | refine FinalC.allA ?_)
      | refine AV.bool_congr ?_ | refine AV.int_congr ?_ | refine AV.str_congr ?_ | refine AV.list_congr ?_ | with_reducible rfl | refine fr1 ?_ | refine fr2 ?_ ?_
    conv => whnf
    refine FreezeD.flat (Freeze.mk ys.reverse _ 83 5 rfl rfl (by rw [List.length_reverse]) (fun y hy => hR.hs y (List.mem_reverse.1 hy)) (fun c hc => hR.nr c (List.mem_flatten.2 ?_)) ?_)
    · obtain ⟨y, hy, hc⟩ := List.mem_flatten.1 hc
      exact ⟨y, List.mem_reverse.1 hy, hc⟩
    rw [hp']
    exact hR.fin hR.hl
  have hg : (decide (0 < k) && decide (k < w)) = true := by
    rw [← Bool.decide_and, decide_eq_true_eq]; exact hc
  have hcs := tNode_cond (l := n.2.2.2.1) (i := k.toNat) (by omega)
  have hr := pcopyCond.ret (n.2.2.2.1.getD k.toNat default).2.1 (by omega)
  obtain ⟨vs, ho, hn, hd⟩ := cond_tkO (n.2.2.2.1.getD k.toNat default).2.1 F
  have hB := hR.push (tCond.fr (n.2.2.2.1.getD k.toNat default).2.1) (n.2.2.2.1.getD k.toNat default).2.1 _ vs ho hn hd
  rw [if_pos hc.2] at hp
  repeat' first
    | contradiction | exact trivial
    | (conv => whnf
       first | refine Need.mk (fun h => h) ?_ | refine Need.mk rfl ?_ | refine Need.mk ⟨rfl, Nat.le_of_ble_eq_true rfl⟩ ?_ | refine Need.mk (Nat.le_of_ble_eq_true rfl) ?_ | refine Need.finN ?_ | refine Need.mk ?_ ?_ | refine Ix.strsN rfl ?_ | refine Ix.strs rfl ?_ ?_ | refine Cut.strs rfl ?_ ?_ | refine Ix.mapN (fun _ => rfl) ?_ | refine Ix.map (fun _ => rfl) ?_ ?_ | refine Cut.map (fun _ => rfl) ?_ ?_ | refine Fork.yes (by assumption) ?_ | refine Fork.no (by assumption) ?_ | refine Fork.decY ?_ | refine Fork.andY ?_ | refine Fork.andN ?_ | refine Fork.decN ?_ | refine Fork.dec (fun _ => ?_) (fun _ => ?_) | refine Fork.bne (fun _ => ?_) (fun _ => ?_) | refine Fork.beq (fun _ => ?_) (fun _ => ?_) | refine Fork.seq (fun _ => ?_) (fun _ => ?_) | refine Fork.sne (fun _ => ?_) (fun _ => ?_) | refine Fork.neg (fun _ => ?_) (fun _ => ?_) | refine Fork.mk (fun _ => ?_) (fun _ => ?_) | refine HAlt.mk ?_ ?_ | apply HJoin.mk3 | exact HEnd.mk rfl rfl rfl | refine HEnd.mk ?_ ?_ ?_ | refine Round.mk ?_ | refine NilQ.mk (fun b hb => ?_) | refine forceK_of ?_ | refine forceBx_of ?_ | refine unG_old ?_ | refine unG_gv ?_ | refine Lit.read rfl ?_ | refine LitO.own rfl ?_ | refine FinVal.keep ?_ | refine FinAgg.keep ?_ | refine Final.mk rfl rfl | refine Final.mk ?_ rfl | refine Final.mk ?_ ?_ | refine FinalT.mk ?_ ?_ | refine FinalI.mk ?_ | refine FinalC.allA ?_ | refine ACall.mk_Cond _ _ (hr) (by repeat' first | exact SeesL.nil | refine SeesL.cons ?_ ?_ | exact SeesB.of0 (Sees0.val _) | exact SeesB.of0 (Sees0.str _) | exact SeesB.of0 (Sees0.olds _ _) | exact SeesB.of0 (Sees0.old _) | exact SeesB.of0 (Sees0.oldagg _) | exact SeesB.of0 Sees0.nil | exact Sees0.val _ | exact Sees0.str _ | exact Sees0.olds _ _ | exact Sees0.old _ | exact Sees0.oldagg _ | exact Sees0.nil | exact SeesB.of0 (Sees0.any _) | assumption | exact sees_gv _ _ _ (by assumption) (by first | assumption | exact BoxIn.last _ _ | exact BoxIn.more (BoxIn.last _ _) _) | refine SeesB.agg ?_ | refine Sees0.agg ?_ | exact SeesB.of0 (Sees0.clo SeesL.nil SeesL.nil) | exact Sees0.clo SeesL.nil SeesL.nil | exact SeesB.of0 (Sees0.list rfl) | exact Sees0.list rfl) ?_)
    | refine AV.bool_congr ?_ | refine AV.int_congr ?_ | refine AV.str_congr ?_ | refine AV.list_congr ?_ | with_reducible rfl | refine fr1 ?_ | refine fr2 ?_ ?_
  · intro _; omega
  · rw [hm]; exact length_flatten' 5 ys hR.hs
  · intro c hc; rw [List.mem_singleton.1 hc]; exact tCond.htk _ _
  · have h1 := pathF_len n.2.2.2.1 at'
    rw [hp, List.length_append, ← hR.hl, ← hm] at h1
    rw [List.length_singleton]; omega
  · intro _; omega
  · refine ⟨((n.2.2.2.1.getD k.toNat default).1, k, m + 1, _, _, _), ⟨by dsimp only; omega, ?_, by rw [hm, List.length_append]; rfl, _, hB⟩, ?_, by dsimp only; rw [if_pos hc.2]; split <;> omega⟩
    · dsimp only
      rw [hp]
      split
      · rename_i hq
        rw [pathF_go ⟨hc.1, by omega⟩ hq, List.append_assoc]; rfl
      · rename_i hq
        rw [pathF_stop ⟨hc.1, by omega⟩ hq]; rfl
    · have hnr : noRef.noRefL (ys ++ [tCond.tk (n.2.2.2.1.getD k.toNat default).2.1 F.length]).flatten = true := by
        rw [noRefL_all, List.all_eq_true]; exact hB.nr
      refine ⟨[0, 2], ?_, ?_, ?_, ⟨Nat.le_of_ble_eq_true rfl, rfl⟩, by decide, ?_⟩
      · repeat' first
          | exact trivial
          | refine And.intro ?_ ?_
          | with_reducible rfl
          | refine AV.int_congr ?_
          | refine AV.bool_congr ?_
          | refine AV.str_congr ?_
          | refine AV.list_congr ?_
          | (apply rfl)
      · refine ⟨⟨_, rfl, .cells _ _ (nr_oldL _)⟩, ⟨.cells _ (ys ++ [tCond.tk (n.2.2.2.1.getD k.toNat default).2.1 F.length]).flatten, ?_, .cells _ _ hnr⟩, trivial⟩
        rw [List.flatten_append]; rfl
      · rfl
      · exact ⟨⟨Nat.zero_lt_succ _, Nat.lt_succ_self 1, trivial, trivial, trivial⟩, inBL_nr (nr_oldL _), inBL_nr hnr, trivial⟩
end Go.Proofs.Ytfnejdkkhpjhmaa
namespace Go.Proofs.Ytfnejdkkhpjhmaa
namespace Abs
theorem at_here {A : List ABox} {v : ABox} {j : Nat} (h : j = A.length) : (A ++ [v])[j]? = some v := by
  subst h; rw [List.getElem?_append_right (Nat.le_refl _), Nat.sub_self]; rfl
theorem at_more {A D : List ABox} {v : ABox} {j : Nat} (h : A[j]? = some v) : (A ++ D)[j]? = some v := by
  rw [List.getElem?_append_left (getElem?_lt h)]; exact h
theorem BoxIn.here {A bs : List ABox} {n : Nat} (h : n = A.length) : BoxIn (A ++ bs) n bs := by subst h; exact BoxIn.last _ _
/-- the boxes of a tree are turned into another one's -/
def TAt (b : List ABox) (n : Nat) (X Y : Tr) (b' : List ABox) : Prop := ∃ pre post, pre.length = n ∧ b = pre ++ gb X n ++ post ∧ pre ++ gb Y n ++ post = b'
theorem TAt.here {A : List ABox} {n : Nat} {X Y : Tr} (h : n = A.length) : TAt (A ++ gb X n) n X Y (A ++ gb Y n) := ⟨A, [], h.symm, by simp, by simp⟩
theorem TAt.more {A D A' : List ABox} {n : Nat} {X Y : Tr} (h : TAt A n X Y A') : TAt (A ++ D) n X Y (A' ++ D) := by
  obtain ⟨pre, post, h1, rfl, rfl⟩ := h
  exact ⟨pre, post ++ D, h1, by simp, by simp⟩
theorem ACall.turnT {C : Con} {f : Nat} {vs : List AV} {b : List ABox} {fr : Fr} {k : AV → List ABox → Fr → Prop} (n : Nat) (b' : List ABox) (ys : List AV) (x x' : Tr) (r : AV) (h : C.turn f (gb x 0) ys r (gb x' 0)) (hr : isScalR r = true)
    (hn : nb x' = nb x) (hv : SeesL (SeesM x n) vs ys) (ht : TAt b n x x' b') (hk : k r b' fr) : ACall C true f vs b fr k := by
  obtain ⟨pre, post, rfl, h1, h2⟩ := ht
  exact ACall.turn' b' ys x x' r pre post h hr h1 hn hv h2 hk
theorem ACall.unbN {C : Con} {lend : Bool} {f : Nat} {vs : List AV} {b : List ABox} {fr : Fr} {k : AV → List ABox → Fr → Prop} (n : Nat) (ys : List AV) (x : Tr) (h : C.own f ys x) (hv : SeesL (SeesB b) vs ys) (hn : b.length = n)
    (hk : k (gv x n) (b ++ gb x n) fr) : ACall C lend f vs b fr k := by
  subst hn; exact ACall.unb ys x h hv hk
theorem ACall.unbN' {C : Con} {lend : Bool} {f : Nat} {vs : List AV} {b : List ABox} {fr : Fr} {k : AV → List ABox → Fr → Prop} (n : Nat) (b' : List ABox) (ys : List AV) (x : Tr) (h : C.own f ys x) (hv : SeesL (SeesB b) vs ys) (hn : b.length = n)
    (hb : b ++ gb x n = b') (hk : k (gv x n) b' fr) : ACall C lend f vs b fr k := by
  subst hn; subst hb; exact ACall.unb ys x h hv hk
theorem sees_mk (x : Tr) (k : Nat) (b : List ABox) (n : Nat) (hok : okT x = true) (h : BoxIn b n (gb (mk x k) n)) : SeesB b (gv x n) (old (mk x k)) := by
  rw [← gv_mk x k n]
  exact sees_gv (mk x k) b n (by rw [okT_mk]; exact hok) h
/-- a struct's variable, and what is put into it at once -/
theorem aOps_new {C : Con} {K : Env → List ABox → Fr → Prop} {d a n : Nat} {z : List Value} {rest : List AO} {e : Env} {b : List ABox} {f : Fr} (m : Nat) (cs : List AV) (hl : b.length = m) (ha : look e a = .agg cs) (hd : a ≠ d) (hz : z.length = n) (hc : cs.length = n)
    (hk : aOps C K rest (put e (some d) (.bptr m 0)) (b ++ [.cells .var cs]) f) : aOps C K (⟨some d, none, .alloc z⟩ :: ⟨none, none, .store n (.tmp d) (.tmp a)⟩ :: rest) e b f := by
  subst hl
  have e1 : look (put e (some d) (.bptr b.length 0)) a = .agg cs := by show (if a = d then _ else look e a) = _; rw [if_neg hd, ha]
  have e2 : look (put e (some d) (.bptr b.length 0)) d = .bptr b.length 0 := by show (if d = d then _ else look e d) = _; rw [if_pos rfl]
  have e3 : (b ++ [.cells .var (z.map constAV)])[b.length]? = some (.cells .var (z.map constAV)) := at_here rfl
  have e4 : ∀ cs0 : List AV, cs0.length = cs.length → setAt cs0 0 cs = cs := fun cs0 h => by
    have := Go.Proofs.Ytfnejdkkhpjhmaa.setAt_mid cs [] cs0 [] h
    simpa using this
  show aOp C (.alloc z) e b f fun v b' f' => aOps C K (⟨none, none, .store n (.tmp d) (.tmp a)⟩ :: rest) (put e (some d) v) b' f'
  show aOps C K (⟨none, none, .store n (.tmp d) (.tmp a)⟩ :: rest) (put e (some d) (.bptr b.length 0)) (b ++ [.cells .var (z.map constAV)]) f
  show aOp C (.store n (.tmp d) (.tmp a)) (put e (some d) (.bptr b.length 0)) (b ++ [.cells .var (z.map constAV)]) f fun v b' f' => aOps C K rest (put (put e (some d) (.bptr b.length 0)) none v) b' f'
  unfold aOp evG ev
  simp only [e1, e2]
  unfold unG
  simp only [e3]
  refine Need.mk ⟨hc, by rw [List.length_map]; omega⟩ ?_
  rw [List.set_append_right _ _ (Nat.le_refl _), Nat.sub_self, List.set_cons_zero, e4 _ (by rw [List.length_map]; omega)]
  exact hk
theorem okT_a {α : Type} (T : Ty α) (a : α) : okT (.a (T.q a)) = true := T.hok a
end Abs
end Go.Proofs.Ytfnejdkkhpjhmaa
namespace Go.Proofs.Ytfnejdkkhpjhmaa
open Abs
def lawExactPathOf.code : ACode := (.seq (.region false [s 2 (.box (t 0)), s 4 (.mv (.const (.bool false)))]) (.seq (.region false [s 5 (.mv (.const (.int .i64 1048576)))]) (.seq (.region false [s 13 (.load true 6 (t 2)), s 14 (.mv (t 5)), s 15 (.call 14 [(t 13), (t 14)]), s 5 (.mv (t 15))]) (.seq (.seq (.region false [s 16 (.mv (t 5)), s 17 (.bin .lss (t 16) (.const (.int .i64 0)))]) (.cond (t 17) (.seq (.region false [s 4 (.mv (.const (.bool true)))]) .ret) .skip)) (.seq (.region false [s 18 (.load true 6 (t 2)), s 19 (.call 16 [(t 18)]), s 20 (.mv (t 1)), s 21 (.call 15 [(t 19), (t 20)]), s 6 (.mv (t 21))]) (.seq (.region false [s 22 (.load true 6 (t 2)), s 23 (.call 16 [(t 22)]), s 7 (.alloc [(.slice none 0 0), (.slice none 0 0), (.slice none 0 0), (.slice none 0 0), (.slice none 0 0), (.int .i64 (.ofNat 0))]), ⟨none, none, (.store 6 (t 7) (t 23))⟩]) (.seq (.region false [s 24 (.load true 6 (t 7)), s 25 (.mv (t 1)), s 26 (.call 17 [(t 24), (t 25)]), s 8 (.mv (t 26))]) (.seq (.seq (.region false [s 27 (.mv (t 8)), s 28 (.mv (t 6)), s 29 (.call 18 [(t 27), (t 28)]), s 30 (.not (t 29))]) (.cond (t 30) (.seq (.region false [s 4 (.mv (.const (.bool false)))]) .ret) .skip)) (.seq (.seq (.held [s 31 (.load true 6 (t 7)), s 32 (.load true 6 (t 2)), s 33 (.call 16 [(t 32)])] [s 34 (.call 19 [(t 31), (t 33)]), s 35 (.not (t 34))]) (.cond (t 35) (.seq (.region false [s 4 (.mv (.const (.bool false)))]) .ret) .skip)) (.seq (.region false [s 9 (.mv (.const (.int .i64 1)))]) (.seq (.region false [s 36 (.load true 6 (t 7)), s 37 (.mv (t 9)), s 38 (.call 20 [(t 36), (t 37)]), s 9 (.mv (t 38))]) (.seq (.seq (.region false [s 39 (.mv (t 9)), s 40 (.bin .lss (t 39) (.const (.int .i64 0))), s 41 (.mv (t 40)), g 41 false 42 (.mv (t 8)), g 41 false 43 (.mv (t 6)), g 41 false 44 (.call 18 [(t 42), (t 43)]), g 41 false 45 (.not (t 44)), s 46 (.or (t 41) (t 45))]) (.cond (t 46) (.seq (.region false [s 4 (.mv (.const (.bool false)))]) .ret) .skip)) (.seq (.region false [s 10 (.mv (.const (.int .i64 1)))]) (.seq (.region false [s 47 (.mv (t 8)), s 48 (.mv (t 10)), s 49 (.call 21 [(t 47), (t 48)]), s 10 (.mv (t 49))]) (.seq (.region false [s 11 (.mv (.const (.int .i64 1)))]) (.seq (.region false [s 50 (.mv (t 8)), s 51 (.mv (t 11)), s 52 (.call 22 [(t 50), (t 51)]), s 11 (.mv (t 52))]) (.seq (.seq (.region false [s 53 (.mv (t 11)), s 54 (.bin .lss (t 53) (.const (.int .i64 0)))]) (.cond (t 54) (.seq (.region false [s 4 (.mv (.const (.bool false)))]) .ret) .skip)) (.seq (.seq (.region false [s 55 (.mv (t 11)), s 56 (.mv (t 10)), s 57 (.bin .neq (t 55) (t 56))]) (.cond (t 57) (.seq (.region false [s 4 (.mv (.const (.bool false)))]) .ret) .skip)) (.seq (.region false [s 58 (.load true 6 (t 2)), s 59 (.call 16 [(t 58)]), s 60 (.mv (t 1)), s 61 (.call 17 [(t 59), (t 60)]), s 12 (.mv (t 61))]) (.seq (.seq (.region false [s 62 (.mv (t 12)), s 63 (.mv (t 6)), s 64 (.call 18 [(t 62), (t 63)]), s 65 (.not (t 64))]) (.cond (t 65) (.seq (.region false [s 4 (.mv (.const (.bool false)))]) .ret) .skip)) (.seq (.region false [s 11 (.mv (.const (.int .i64 1)))]) (.seq (.region false [s 66 (.mv (t 8)), s 67 (.mv (t 11)), s 68 (.call 22 [(t 66), (t 67)]), s 11 (.mv (t 68))]) (.seq (.seq (.region false [s 69 (.mv (t 11)), s 70 (.bin .lss (t 69) (.const (.int .i64 0)))]) (.cond (t 70) (.seq (.region false [s 4 (.mv (.const (.bool false)))]) .ret) .skip)) (.seq (.seq (.region false [s 71 (.mv (t 11)), s 72 (.mv (t 10)), s 73 (.bin .neq (t 71) (t 72))]) (.cond (t 73) (.seq (.region false [s 4 (.mv (.const (.bool false)))]) .ret) .skip)) (.seq (.region false [s 4 (.mv (.const (.bool true)))]) .ret)))))))))))))))))))))))))
def lawExactPathOf.keep : List Nat := [0, 1, 2, 4, 5, 6, 7, 8, 9, 10, 11, 12]
def lawExactPathOf.res : List RRes := [.tmp 4]
theorem lawExactPathOf.ofS {mo : Bool} {args : List AV} {r : AV} (hr : isScalR r = true) (hn : Nat.ble args.length Try.f4.ntmps = true) (h : aCode (Kn mo Try.prog) lawExactPathOf.keep 0 lawExactPathOf.code (doneS lawExactPathOf.res r) ⟨argEnv 0 args, [], []⟩) : Abs.Ret mo Try.prog 4 args r [] :=
  Abs.Ret.of_irS hr Try.func4 rfl (by kernel_rfl) (Nat.le_of_ble_eq_true hn) (by kernel_rfl) (by kernel_rfl) h
abbrev lawExactPathOf.Ret (args : List AV) (r : AV) (frs : Fr) : Prop := Abs.Ret true Try.prog 4 args r frs
end Go.Proofs.Ytfnejdkkhpjhmaa
namespace Go.Proofs.Ytfnejdkkhpjhmaa
open Abs
set_option maxRecDepth 20000 in
set_option maxHeartbeats 4000000 in
theorem lawExactPathOf.of_own (a0 : VNetwork) (a1 : Int) (hb0 : tNetwork.bd a0) (hb1 : Ty.int.bd a1)
    (h : tNetwork.size a0 ≤ 1048576 → ∃ (r0 : List VCond), tConds.size r0 ≤ 1073741824 ∧ (sPathOf.Own [.agg (oldL (tNetwork.q a0)), .val (.int .i64 a1)] (.l 83 5 (r0.map tCond.q)) ∧ pPathOf.Own [.agg (oldL (tNetwork.q a0)), .val (.int .i64 a1)] (.l 83 5 (r0.map tCond.q)))) :
    lawExactPathOf.Ret [.agg (oldL (tNetwork.q a0)), .val (.int .i64 a1)] (.val (.bool true)) [] := by
  refine lawExactPathOf.ofS rfl rfl ?_
  by_cases c1 : (1048576 : Int) < (tNetwork.size a0 : Int)
  · have e0 : left 1048576 (tNetwork.size a0) = -1 := by rw [left, if_pos (by omega)]
    repeat' first
      | contradiction | exact trivial
      | (conv => whnf
         first | refine Need.mk (fun h => h) ?_ | refine Need.mk rfl ?_ | refine Need.mk ⟨rfl, Nat.le_of_ble_eq_true rfl⟩ ?_ | refine Need.mk (Nat.le_of_ble_eq_true rfl) ?_ | refine Need.fin ?_ | refine Need.mk ?_ ?_ | refine Ix.strsF rfl ?_ | refine Ix.strs rfl ?_ ?_ | refine Cut.strs rfl ?_ ?_ | refine Ix.mapF (fun _ => rfl) ?_ | refine Ix.map (fun _ => rfl) ?_ ?_ | refine Cut.map (fun _ => rfl) ?_ ?_ | refine Fork.yes (by assumption) ?_ | refine Fork.no (by assumption) ?_ | refine Fork.decYes (by omega) ?_ | refine Fork.decNo (by omega) ?_ | refine Fork.dec (fun _ => ?_) (fun _ => ?_) | refine Fork.bne (fun _ => ?_) (fun _ => ?_) | refine Fork.beq (fun _ => ?_) (fun _ => ?_) | refine Fork.seq (fun _ => ?_) (fun _ => ?_) | refine Fork.sne (fun _ => ?_) (fun _ => ?_) | refine Fork.neg (fun _ => ?_) (fun _ => ?_) | refine Fork.mk (fun _ => ?_) (fun _ => ?_) | refine HAlt.mk ?_ ?_ | apply HJoin.mk3 | exact HEnd.mk rfl rfl rfl | refine HEnd.mk ?_ ?_ ?_ | refine Round.mk ?_ | refine NilQ.mk (fun b hb => ?_) | refine forceK_of ?_ | refine forceBx_of ?_ | refine unG_old ?_ | refine unG_gv ?_ | refine Lit.read rfl ?_ | refine LitO.own rfl ?_ | refine FinVal.keep ?_ | refine FinAgg.keep ?_ | refine Final.mk rfl rfl | refine Final.mk ?_ rfl | refine Final.mk ?_ ?_ | refine FinalT.mk ?_ ?_ | refine FinalI.mk ?_ | refine FinalC.allA ?_ | refine ACall.scalA _ _ (szNetwork.ret _ _ ?_ ?_ ?_) rfl ?_ | refine AQCall.mkA _ _ (fun hg => szNetwork.ret _ _ ?_ ?_ ?_) rfl ?_ | refine AGCall.mkA _ _ (fun hg => szNetwork.ret _ _ ?_ ?_ ?_) rfl ?_)
      | refine AV.bool_congr ?_ | refine AV.int_congr ?_ | refine AV.str_congr ?_ | refine AV.list_congr ?_ | with_reducible rfl | refine fr1 ?_ | refine fr2 ?_ ?_
    all_goals first
      | assumption
      | omega
  have e0 : left 1048576 (tNetwork.size a0) = 1048576 - (tNetwork.size a0 : Int) := by rw [left, if_neg (by omega)]
  obtain ⟨r0, hg0, hs, hp⟩ := h (by omega)
  have hcX0 : cn (.a (tNetwork.q a0)) ≤ 29 * (1 + tNetwork.size a0) := Nat.le_trans (tNetwork_cnA a0) (tNetwork_cn a0)
  have hcX0e : cn (.a [.l 110 4 (a0.1.map tRule.q), .l 3 1 (a0.2.1.map Ty.int.q), .l 106 3 (a0.2.2.1.map tAlpha.q), .l 87 8 (a0.2.2.2.1.map tNode.q), .l 144 2 (a0.2.2.2.2.1.map tFct.q), .v (.int .i64 a0.2.2.2.2.2)]) ≤ 29 * (1 + tNetwork.size a0) := hcX0
  have hcG0 : cn (.l 83 5 (r0.map tCond.q)) ≤ 5 * (1 + tConds.size r0) := Nat.le_trans (CnB.l tCond_cn _ _ r0) (Nat.mul_le_mul_left _ (Nat.le_add_left _ _))
  obtain ⟨X0_0, eX0_0⟩ : ∃ x, x = Tr.l 110 4 (a0.1.map tRule.q) := ⟨_, rfl⟩
  obtain ⟨X0_1, eX0_1⟩ : ∃ x, x = Tr.l 3 1 (a0.2.1.map Ty.int.q) := ⟨_, rfl⟩
  obtain ⟨X0_2, eX0_2⟩ : ∃ x, x = Tr.l 106 3 (a0.2.2.1.map tAlpha.q) := ⟨_, rfl⟩
  obtain ⟨X0_3, eX0_3⟩ : ∃ x, x = Tr.l 87 8 (a0.2.2.2.1.map tNode.q) := ⟨_, rfl⟩
  obtain ⟨X0_4, eX0_4⟩ : ∃ x, x = Tr.l 144 2 (a0.2.2.2.2.1.map tFct.q) := ⟨_, rfl⟩
  obtain ⟨G0, eG0⟩ : ∃ x, x = Tr.l 83 5 (r0.map tCond.q) := ⟨_, rfl⟩
  have okX0 : okT (.a [X0_0, X0_1, X0_2, X0_3, X0_4, .v (.int .i64 a0.2.2.2.2.2)]) = true := by
    rw [eX0_0, eX0_1, eX0_2, eX0_3, eX0_4]
    exact okT_a tNetwork a0
  have hto0 : toNetwork.Own [.agg (oldL (tNetwork.q a0))] (.a [X0_0, X0_1, X0_2, X0_3, X0_4, .v (.int .i64 a0.2.2.2.2.2)]) := by
    rw [eX0_0, eX0_1, eX0_2, eX0_3, eX0_4]
    exact toNetwork.own a0 (by omega)
  have heX0 : eqNetwork.Ret [old (.a [X0_0, X0_1, X0_2, X0_3, X0_4, .v (.int .i64 a0.2.2.2.2.2)]), old (.a [X0_0, X0_1, X0_2, X0_3, X0_4, .v (.int .i64 a0.2.2.2.2.2)])] (.val (.bool true)) [] := by
    rw [eX0_0, eX0_1, eX0_2, eX0_3, eX0_4]
    have := eqNetwork.big a0 a0 (by omega)
    simp only [decide_true] at this
    exact this
  have hmX0 : markNetwork.Turn (gb (.a [X0_0, X0_1, X0_2, X0_3, X0_4, .v (.int .i64 a0.2.2.2.2.2)]) 0) [gv (.a [X0_0, X0_1, X0_2, X0_3, X0_4, .v (.int .i64 a0.2.2.2.2.2)]) 0, .val (.int .i64 ((1 : Nat)))] (.val (.int .i64 ((1 + cn (.a [X0_0, X0_1, X0_2, X0_3, X0_4, .v (.int .i64 a0.2.2.2.2.2)]) : Nat)))) (gb (mk (.a [X0_0, X0_1, X0_2, X0_3, X0_4, .v (.int .i64 a0.2.2.2.2.2)]) (1)) 0) := by
    rw [eX0_0, eX0_1, eX0_2, eX0_3, eX0_4]
    exact markNetwork.tn a0 _ (by omega) (by omega)
  have okG0 : okT (G0) = true := by
    rw [eG0]
    exact ok_list tCond _ r0
  have heG0 : eqCondS.Ret [old (G0), old (G0)] (.val (.bool true)) [] := by
    rw [eG0]
    have := eqCondS.big r0 r0 (by omega)
    simp only [decide_true] at this
    exact this
  have hmG0 : markCondS.Turn (gb (G0) 0) [gv (G0) 0, .val (.int .i64 ((1 : Nat)))] (.val (.int .i64 ((1 + cn (G0) : Nat)))) (gb (mk (G0) (1)) 0) := by
    rw [eG0]
    exact markCondS.tn r0 _ (by omega) (by omega)
  have hhG0 : heldCondS.Ret [old (mk (G0) (1)), .val (.int .i64 ((1 : Nat)))] (.val (.int .i64 ((1 + cn (G0) : Nat)))) [] := by
    rw [eG0]
    exact heldCondS.hd r0 _ (by omega) (by omega)
  have hs' : sPathOf.Own [old (.a [X0_0, X0_1, X0_2, X0_3, X0_4, .v (.int .i64 a0.2.2.2.2.2)]), .val (.int .i64 a1)] (G0) := by
    rw [eX0_0, eX0_1, eX0_2, eX0_3, eX0_4, eG0]
    exact hs
  have hp' : pPathOf.Own [old (.a [X0_0, X0_1, X0_2, X0_3, X0_4, .v (.int .i64 a0.2.2.2.2.2)]), .val (.int .i64 a1)] (G0) := by
    rw [eX0_0, eX0_1, eX0_2, eX0_3, eX0_4, eG0]
    exact hp
  clear hs hp eX0_0 eX0_1 eX0_2 eX0_3 eX0_4 eG0
  obtain ⟨B0, hB0⟩ : ∃ B0 : List ABox, B0 = [ABox.cells .var (oldL (tNetwork.q a0))] := ⟨_, rfl⟩
  have hB0l : B0.length = 1 := by rw [hB0]; rfl
  have hat0 : B0[0]? = some (ABox.cells .var (oldL (tNetwork.q a0))) := by rw [hB0]; rfl
  repeat' first
    | contradiction | exact trivial
    | (conv => whnf
       first | refine Need.mk (fun h => h) ?_ | refine Need.mk rfl ?_ | refine Need.mk ⟨rfl, Nat.le_of_ble_eq_true rfl⟩ ?_ | refine Need.mk (Nat.le_of_ble_eq_true rfl) ?_ | refine Need.fin ?_ | refine Need.mk ?_ ?_ | refine Ix.strsF rfl ?_ | refine Ix.strs rfl ?_ ?_ | refine Cut.strs rfl ?_ ?_ | refine Ix.mapF (fun _ => rfl) ?_ | refine Ix.map (fun _ => rfl) ?_ ?_ | refine Cut.map (fun _ => rfl) ?_ ?_ | refine Fork.yes (by assumption) ?_ | refine Fork.no (by assumption) ?_ | refine Fork.decYes (by omega) ?_ | refine Fork.decNo (by omega) ?_ | refine Fork.dec (fun _ => ?_) (fun _ => ?_) | refine Fork.bne (fun _ => ?_) (fun _ => ?_) | refine Fork.beq (fun _ => ?_) (fun _ => ?_) | refine Fork.seq (fun _ => ?_) (fun _ => ?_) | refine Fork.sne (fun _ => ?_) (fun _ => ?_) | refine Fork.neg (fun _ => ?_) (fun _ => ?_) | refine Fork.mk (fun _ => ?_) (fun _ => ?_) | refine HAlt.mk ?_ ?_ | apply HJoin.mk3 | exact HEnd.mk rfl rfl rfl | refine HEnd.mk ?_ ?_ ?_ | refine Round.mk ?_ | refine NilQ.mk (fun b hb => ?_) | refine forceK_of ?_ | refine forceBx_of ?_ | refine unG_old ?_ | refine unG_gv ?_ | refine Lit.read rfl ?_ | refine LitO.own rfl ?_ | refine FinVal.keep ?_ | refine FinAgg.keep ?_ | refine Final.mk rfl rfl | refine Final.mk ?_ rfl | refine Final.mk ?_ ?_ | refine FinalT.mk ?_ ?_ | refine FinalI.mk ?_ | refine FinalC.allA ?_ | refine ACall.scalA _ _ (szNetwork.ret _ _ ?_ ?_ ?_) rfl ?_ | refine AQCall.mkA _ _ (fun hg => szNetwork.ret _ _ ?_ ?_ ?_) rfl ?_ | refine AGCall.mkA _ _ (fun hg => szNetwork.ret _ _ ?_ ?_ ?_) rfl ?_)
    | refine AV.bool_congr ?_ | refine AV.int_congr ?_ | refine AV.str_congr ?_ | refine AV.list_congr ?_ | with_reducible rfl | refine fr1 ?_ | refine fr2 ?_ ?_
  all_goals first
    | assumption
    | omega
    | skip
  conv => whnf
  refine ACall.old [.agg (oldL (tNetwork.q a0))] (.a [X0_0, X0_1, X0_2, X0_3, X0_4, .v (.int .i64 a0.2.2.2.2.2)]) hto0 (.cons (SeesB.of0 (Sees0.cut (ys := tNetwork.q a0) (by rfl))) .nil) okX0 ?_
  repeat' first
    | contradiction | exact trivial
    | (conv => whnf
       first | refine Need.mk (fun h => h) ?_ | refine Need.mk rfl ?_ | refine Need.mk ⟨rfl, Nat.le_of_ble_eq_true rfl⟩ ?_ | refine Need.mk (Nat.le_of_ble_eq_true rfl) ?_ | refine Need.fin ?_ | refine Need.mk ?_ ?_ | refine Ix.strsF rfl ?_ | refine Ix.strs rfl ?_ ?_ | refine Cut.strs rfl ?_ ?_ | refine Ix.mapF (fun _ => rfl) ?_ | refine Ix.map (fun _ => rfl) ?_ ?_ | refine Cut.map (fun _ => rfl) ?_ ?_ | refine Fork.yes (by assumption) ?_ | refine Fork.no (by assumption) ?_ | refine Fork.decYes (by omega) ?_ | refine Fork.decNo (by omega) ?_ | refine Fork.dec (fun _ => ?_) (fun _ => ?_) | refine Fork.bne (fun _ => ?_) (fun _ => ?_) | refine Fork.beq (fun _ => ?_) (fun _ => ?_) | refine Fork.seq (fun _ => ?_) (fun _ => ?_) | refine Fork.sne (fun _ => ?_) (fun _ => ?_) | refine Fork.neg (fun _ => ?_) (fun _ => ?_) | refine Fork.mk (fun _ => ?_) (fun _ => ?_) | refine HAlt.mk ?_ ?_ | apply HJoin.mk3 | exact HEnd.mk rfl rfl rfl | refine HEnd.mk ?_ ?_ ?_ | refine Round.mk ?_ | refine NilQ.mk (fun b hb => ?_) | refine forceK_of ?_ | refine forceBx_of ?_ | refine unG_old ?_ | refine unG_gv ?_ | refine Lit.read rfl ?_ | refine LitO.own rfl ?_ | refine FinVal.keep ?_ | refine FinAgg.keep ?_ | refine Final.mk rfl rfl | refine Final.mk ?_ rfl | refine Final.mk ?_ ?_ | refine FinalT.mk ?_ ?_ | refine FinalI.mk ?_ | refine FinalC.allA ?_)
    | refine AV.bool_congr ?_ | refine AV.int_congr ?_ | refine AV.str_congr ?_ | refine AV.list_congr ?_ | with_reducible rfl | refine fr1 ?_ | refine fr2 ?_ ?_
  have okR := okG0
  conv => whnf
  refine ACall.old [old (.a [X0_0, X0_1, X0_2, X0_3, X0_4, .v (.int .i64 a0.2.2.2.2.2)]), .val (.int .i64 a1)] (G0) hs' (.cons (SeesB.of0 (Sees0.old (.a [X0_0, X0_1, X0_2, X0_3, X0_4, .v (.int .i64 a0.2.2.2.2.2)]))) (.cons (SeesB.of0 (Sees0.val _)) .nil)) okR ?_
  repeat' first
    | contradiction | exact trivial
    | (conv => whnf
       first | refine Need.mk (fun h => h) ?_ | refine Need.mk rfl ?_ | refine Need.mk ⟨rfl, Nat.le_of_ble_eq_true rfl⟩ ?_ | refine Need.mk (Nat.le_of_ble_eq_true rfl) ?_ | refine Need.fin ?_ | refine Need.mk ?_ ?_ | refine Ix.strsF rfl ?_ | refine Ix.strs rfl ?_ ?_ | refine Cut.strs rfl ?_ ?_ | refine Ix.mapF (fun _ => rfl) ?_ | refine Ix.map (fun _ => rfl) ?_ ?_ | refine Cut.map (fun _ => rfl) ?_ ?_ | refine Fork.yes (by assumption) ?_ | refine Fork.no (by assumption) ?_ | refine Fork.decYes (by omega) ?_ | refine Fork.decNo (by omega) ?_ | refine Fork.dec (fun _ => ?_) (fun _ => ?_) | refine Fork.bne (fun _ => ?_) (fun _ => ?_) | refine Fork.beq (fun _ => ?_) (fun _ => ?_) | refine Fork.seq (fun _ => ?_) (fun _ => ?_) | refine Fork.sne (fun _ => ?_) (fun _ => ?_) | refine Fork.neg (fun _ => ?_) (fun _ => ?_) | refine Fork.mk (fun _ => ?_) (fun _ => ?_) | refine HAlt.mk ?_ ?_ | apply HJoin.mk3 | exact HEnd.mk rfl rfl rfl | refine HEnd.mk ?_ ?_ ?_ | refine Round.mk ?_ | refine NilQ.mk (fun b hb => ?_) | refine forceK_of ?_ | refine forceBx_of ?_ | refine unG_old ?_ | refine unG_gv ?_ | refine Lit.read rfl ?_ | refine LitO.own rfl ?_ | refine FinVal.keep ?_ | refine FinAgg.keep ?_ | refine Final.mk rfl rfl | refine Final.mk ?_ rfl | refine Final.mk ?_ ?_ | refine FinalT.mk ?_ ?_ | refine FinalI.mk ?_ | refine FinalC.allA ?_)
    | refine AV.bool_congr ?_ | refine AV.int_congr ?_ | refine AV.str_congr ?_ | refine AV.list_congr ?_ | with_reducible rfl | refine fr1 ?_ | refine fr2 ?_ ?_
  conv => whnf
  refine ACall.unbN' (1) (B0 ++ gb (.a [X0_0, X0_1, X0_2, X0_3, X0_4, .v (.int .i64 a0.2.2.2.2.2)]) (1)) [.agg (oldL (tNetwork.q a0))] (.a [X0_0, X0_1, X0_2, X0_3, X0_4, .v (.int .i64 a0.2.2.2.2.2)]) hto0 (.cons (SeesB.of0 (Sees0.cut (ys := tNetwork.q a0) (by rfl))) .nil) (by rfl) (by subst hB0; rfl) ?_
  refine aOps_new (1 + nb (.a [X0_0, X0_1, X0_2, X0_3, X0_4, .v (.int .i64 a0.2.2.2.2.2)])) (gvL [X0_0, X0_1, X0_2, X0_3, X0_4, .v (.int .i64 a0.2.2.2.2.2)] (1)) (by (try simp only [List.length_append, List.length_cons, List.length_nil, length_gb, nb_mk, Nat.zero_add, hB0l]) <;> omega) rfl (by decide) rfl rfl ?_
  repeat' first
    | contradiction | exact trivial
    | (conv => whnf
       first | refine Need.mk (fun h => h) ?_ | refine Need.mk rfl ?_ | refine Need.mk ⟨rfl, Nat.le_of_ble_eq_true rfl⟩ ?_ | refine Need.mk (Nat.le_of_ble_eq_true rfl) ?_ | refine Need.fin ?_ | refine Need.mk ?_ ?_ | refine Ix.strsF rfl ?_ | refine Ix.strs rfl ?_ ?_ | refine Cut.strs rfl ?_ ?_ | refine Ix.mapF (fun _ => rfl) ?_ | refine Ix.map (fun _ => rfl) ?_ ?_ | refine Cut.map (fun _ => rfl) ?_ ?_ | refine Fork.yes (by assumption) ?_ | refine Fork.no (by assumption) ?_ | refine Fork.decYes (by omega) ?_ | refine Fork.decNo (by omega) ?_ | refine Fork.dec (fun _ => ?_) (fun _ => ?_) | refine Fork.bne (fun _ => ?_) (fun _ => ?_) | refine Fork.beq (fun _ => ?_) (fun _ => ?_) | refine Fork.seq (fun _ => ?_) (fun _ => ?_) | refine Fork.sne (fun _ => ?_) (fun _ => ?_) | refine Fork.neg (fun _ => ?_) (fun _ => ?_) | refine Fork.mk (fun _ => ?_) (fun _ => ?_) | refine HAlt.mk ?_ ?_ | apply HJoin.mk3 | exact HEnd.mk rfl rfl rfl | refine HEnd.mk ?_ ?_ ?_ | refine Round.mk ?_ | refine NilQ.mk (fun b hb => ?_) | refine forceK_of ?_ | refine forceBx_of ?_ | refine unG_old ?_ | refine unG_gv ?_ | refine Lit.read rfl ?_ | refine LitO.own rfl ?_ | refine FinVal.keep ?_ | refine FinAgg.keep ?_ | refine Final.mk rfl rfl | refine Final.mk ?_ rfl | refine Final.mk ?_ ?_ | refine FinalT.mk ?_ ?_ | refine FinalI.mk ?_ | refine FinalC.allA ?_)
    | refine AV.bool_congr ?_ | refine AV.int_congr ?_ | refine AV.str_congr ?_ | refine AV.list_congr ?_ | with_reducible rfl | refine fr1 ?_ | refine fr2 ?_ ?_
  conv => whnf
  refine ld_agg (by repeat' first | (refine at_here ?_; (try simp only [List.length_append, List.length_cons, List.length_nil, length_gb, nb_mk, Nat.zero_add, hB0l]) <;> omega) | exact hat0 | refine at_more ?_) (by first | exact Nat.le_of_ble_eq_true rfl | ((simp only [List.drop_zero, List.length_cons, List.length_nil, length_gvL]) <;> decide)) ?_
  repeat' first
    | contradiction | exact trivial
    | (conv => whnf
       first | refine Need.mk (fun h => h) ?_ | refine Need.mk rfl ?_ | refine Need.mk ⟨rfl, Nat.le_of_ble_eq_true rfl⟩ ?_ | refine Need.mk (Nat.le_of_ble_eq_true rfl) ?_ | refine Need.fin ?_ | refine Need.mk ?_ ?_ | refine Ix.strsF rfl ?_ | refine Ix.strs rfl ?_ ?_ | refine Cut.strs rfl ?_ ?_ | refine Ix.mapF (fun _ => rfl) ?_ | refine Ix.map (fun _ => rfl) ?_ ?_ | refine Cut.map (fun _ => rfl) ?_ ?_ | refine Fork.yes (by assumption) ?_ | refine Fork.no (by assumption) ?_ | refine Fork.decYes (by omega) ?_ | refine Fork.decNo (by omega) ?_ | refine Fork.dec (fun _ => ?_) (fun _ => ?_) | refine Fork.bne (fun _ => ?_) (fun _ => ?_) | refine Fork.beq (fun _ => ?_) (fun _ => ?_) | refine Fork.seq (fun _ => ?_) (fun _ => ?_) | refine Fork.sne (fun _ => ?_) (fun _ => ?_) | refine Fork.neg (fun _ => ?_) (fun _ => ?_) | refine Fork.mk (fun _ => ?_) (fun _ => ?_) | refine HAlt.mk ?_ ?_ | apply HJoin.mk3 | exact HEnd.mk rfl rfl rfl | refine HEnd.mk ?_ ?_ ?_ | refine Round.mk ?_ | refine NilQ.mk (fun b hb => ?_) | refine forceK_of ?_ | refine forceBx_of ?_ | refine unG_old ?_ | refine unG_gv ?_ | refine Lit.read rfl ?_ | refine LitO.own rfl ?_ | refine FinVal.keep ?_ | refine FinAgg.keep ?_ | refine Final.mk rfl rfl | refine Final.mk ?_ rfl | refine Final.mk ?_ ?_ | refine FinalT.mk ?_ ?_ | refine FinalI.mk ?_ | refine FinalC.allA ?_)
    | refine AV.bool_congr ?_ | refine AV.int_congr ?_ | refine AV.str_congr ?_ | refine AV.list_congr ?_ | with_reducible rfl | refine fr1 ?_ | refine fr2 ?_ ?_
  conv => whnf
  refine ACall.unbN (1 + nb (.a [X0_0, X0_1, X0_2, X0_3, X0_4, .v (.int .i64 a0.2.2.2.2.2)]) + 1) [old (.a [X0_0, X0_1, X0_2, X0_3, X0_4, .v (.int .i64 a0.2.2.2.2.2)]), .val (.int .i64 a1)] (G0) hp' (.cons (sees_gv (.a [X0_0, X0_1, X0_2, X0_3, X0_4, .v (.int .i64 a0.2.2.2.2.2)]) _ (1) okX0 (by repeat' first | (refine BoxIn.here ?_; (try simp only [List.length_append, List.length_cons, List.length_nil, length_gb, nb_mk, Nat.zero_add, hB0l]) <;> omega) | refine BoxIn.more ?_ _)) (.cons (SeesB.of0 (Sees0.val _)) .nil)) (by (try simp only [List.length_append, List.length_cons, List.length_nil, length_gb, nb_mk, Nat.zero_add, hB0l]) <;> omega) ?_
  repeat' first
    | contradiction | exact trivial
    | (conv => whnf
       first | refine Need.mk (fun h => h) ?_ | refine Need.mk rfl ?_ | refine Need.mk ⟨rfl, Nat.le_of_ble_eq_true rfl⟩ ?_ | refine Need.mk (Nat.le_of_ble_eq_true rfl) ?_ | refine Need.fin ?_ | refine Need.mk ?_ ?_ | refine Ix.strsF rfl ?_ | refine Ix.strs rfl ?_ ?_ | refine Cut.strs rfl ?_ ?_ | refine Ix.mapF (fun _ => rfl) ?_ | refine Ix.map (fun _ => rfl) ?_ ?_ | refine Cut.map (fun _ => rfl) ?_ ?_ | refine Fork.yes (by assumption) ?_ | refine Fork.no (by assumption) ?_ | refine Fork.decYes (by omega) ?_ | refine Fork.decNo (by omega) ?_ | refine Fork.dec (fun _ => ?_) (fun _ => ?_) | refine Fork.bne (fun _ => ?_) (fun _ => ?_) | refine Fork.beq (fun _ => ?_) (fun _ => ?_) | refine Fork.seq (fun _ => ?_) (fun _ => ?_) | refine Fork.sne (fun _ => ?_) (fun _ => ?_) | refine Fork.neg (fun _ => ?_) (fun _ => ?_) | refine Fork.mk (fun _ => ?_) (fun _ => ?_) | refine HAlt.mk ?_ ?_ | apply HJoin.mk3 | exact HEnd.mk rfl rfl rfl | refine HEnd.mk ?_ ?_ ?_ | refine Round.mk ?_ | refine NilQ.mk (fun b hb => ?_) | refine forceK_of ?_ | refine forceBx_of ?_ | refine unG_old ?_ | refine unG_gv ?_ | refine Lit.read rfl ?_ | refine LitO.own rfl ?_ | refine FinVal.keep ?_ | refine FinAgg.keep ?_ | refine Final.mk rfl rfl | refine Final.mk ?_ rfl | refine Final.mk ?_ ?_ | refine FinalT.mk ?_ ?_ | refine FinalI.mk ?_ | refine FinalC.allA ?_)
    | refine AV.bool_congr ?_ | refine AV.int_congr ?_ | refine AV.str_congr ?_ | refine AV.list_congr ?_ | with_reducible rfl | refine fr1 ?_ | refine fr2 ?_ ?_
  conv => whnf
  (try refine AGCall.scal ?_)
  first
    | refine ACall.scal [old (G0), old (G0)] _ heG0 rfl (.cons (sees_gv (G0) _ (1 + nb (.a [X0_0, X0_1, X0_2, X0_3, X0_4, .v (.int .i64 a0.2.2.2.2.2)]) + 1) okG0 (by repeat' first | (refine BoxIn.here ?_; (try simp only [List.length_append, List.length_cons, List.length_nil, length_gb, nb_mk, Nat.zero_add, hB0l]) <;> omega) | refine BoxIn.more ?_ _)) (.cons (SeesB.of0 (Sees0.old (G0))) .nil)) ?_
    | refine AQCall.mk [old (G0), old (G0)] _ (fun _ => heG0) rfl (fun _ => .cons (sees_gv (G0) _ (1 + nb (.a [X0_0, X0_1, X0_2, X0_3, X0_4, .v (.int .i64 a0.2.2.2.2.2)]) + 1) okG0 (by repeat' first | (refine BoxIn.here ?_; (try simp only [List.length_append, List.length_cons, List.length_nil, length_gb, nb_mk, Nat.zero_add, hB0l]) <;> omega) | refine BoxIn.more ?_ _)) (.cons (SeesB.of0 (Sees0.old (G0))) .nil)) ?_
  repeat' first
    | contradiction | exact trivial
    | (conv => whnf
       first | refine Need.mk (fun h => h) ?_ | refine Need.mk rfl ?_ | refine Need.mk ⟨rfl, Nat.le_of_ble_eq_true rfl⟩ ?_ | refine Need.mk (Nat.le_of_ble_eq_true rfl) ?_ | refine Need.fin ?_ | refine Need.mk ?_ ?_ | refine Ix.strsF rfl ?_ | refine Ix.strs rfl ?_ ?_ | refine Cut.strs rfl ?_ ?_ | refine Ix.mapF (fun _ => rfl) ?_ | refine Ix.map (fun _ => rfl) ?_ ?_ | refine Cut.map (fun _ => rfl) ?_ ?_ | refine Fork.yes (by assumption) ?_ | refine Fork.no (by assumption) ?_ | refine Fork.decYes (by omega) ?_ | refine Fork.decNo (by omega) ?_ | refine Fork.dec (fun _ => ?_) (fun _ => ?_) | refine Fork.bne (fun _ => ?_) (fun _ => ?_) | refine Fork.beq (fun _ => ?_) (fun _ => ?_) | refine Fork.seq (fun _ => ?_) (fun _ => ?_) | refine Fork.sne (fun _ => ?_) (fun _ => ?_) | refine Fork.neg (fun _ => ?_) (fun _ => ?_) | refine Fork.mk (fun _ => ?_) (fun _ => ?_) | refine HAlt.mk ?_ ?_ | apply HJoin.mk3 | exact HEnd.mk rfl rfl rfl | refine HEnd.mk ?_ ?_ ?_ | refine Round.mk ?_ | refine NilQ.mk (fun b hb => ?_) | refine forceK_of ?_ | refine forceBx_of ?_ | refine unG_old ?_ | refine unG_gv ?_ | refine Lit.read rfl ?_ | refine LitO.own rfl ?_ | refine FinVal.keep ?_ | refine FinAgg.keep ?_ | refine Final.mk rfl rfl | refine Final.mk ?_ rfl | refine Final.mk ?_ ?_ | refine FinalT.mk ?_ ?_ | refine FinalI.mk ?_ | refine FinalC.allA ?_)
    | refine AV.bool_congr ?_ | refine AV.int_congr ?_ | refine AV.str_congr ?_ | refine AV.list_congr ?_ | with_reducible rfl | refine fr1 ?_ | refine fr2 ?_ ?_
  all_goals try (exfalso; rename_i hx; simp at hx; done)
  conv => whnf
  refine ld_agg (by repeat' first | (refine at_here ?_; (try simp only [List.length_append, List.length_cons, List.length_nil, length_gb, nb_mk, Nat.zero_add, hB0l]) <;> omega) | exact hat0 | refine at_more ?_) (by first | exact Nat.le_of_ble_eq_true rfl | ((simp only [List.drop_zero, List.length_cons, List.length_nil, length_gvL]) <;> decide)) ?_
  repeat' first
    | contradiction | exact trivial
    | (conv => whnf
       first | refine Need.mk (fun h => h) ?_ | refine Need.mk rfl ?_ | refine Need.mk ⟨rfl, Nat.le_of_ble_eq_true rfl⟩ ?_ | refine Need.mk (Nat.le_of_ble_eq_true rfl) ?_ | refine Need.fin ?_ | refine Need.mk ?_ ?_ | refine Ix.strsF rfl ?_ | refine Ix.strs rfl ?_ ?_ | refine Cut.strs rfl ?_ ?_ | refine Ix.mapF (fun _ => rfl) ?_ | refine Ix.map (fun _ => rfl) ?_ ?_ | refine Cut.map (fun _ => rfl) ?_ ?_ | refine Fork.yes (by assumption) ?_ | refine Fork.no (by assumption) ?_ | refine Fork.decYes (by omega) ?_ | refine Fork.decNo (by omega) ?_ | refine Fork.dec (fun _ => ?_) (fun _ => ?_) | refine Fork.bne (fun _ => ?_) (fun _ => ?_) | refine Fork.beq (fun _ => ?_) (fun _ => ?_) | refine Fork.seq (fun _ => ?_) (fun _ => ?_) | refine Fork.sne (fun _ => ?_) (fun _ => ?_) | refine Fork.neg (fun _ => ?_) (fun _ => ?_) | refine Fork.mk (fun _ => ?_) (fun _ => ?_) | refine HAlt.mk ?_ ?_ | apply HJoin.mk3 | exact HEnd.mk rfl rfl rfl | refine HEnd.mk ?_ ?_ ?_ | refine Round.mk ?_ | refine NilQ.mk (fun b hb => ?_) | refine forceK_of ?_ | refine forceBx_of ?_ | refine unG_old ?_ | refine unG_gv ?_ | refine Lit.read rfl ?_ | refine LitO.own rfl ?_ | refine FinVal.keep ?_ | refine FinAgg.keep ?_ | refine Final.mk rfl rfl | refine Final.mk ?_ rfl | refine Final.mk ?_ ?_ | refine FinalT.mk ?_ ?_ | refine FinalI.mk ?_ | refine FinalC.allA ?_)
    | refine AV.bool_congr ?_ | refine AV.int_congr ?_ | refine AV.str_congr ?_ | refine AV.list_congr ?_ | with_reducible rfl | refine fr1 ?_ | refine fr2 ?_ ?_
  conv => whnf
  refine ld_agg (by repeat' first | (refine at_here ?_; (try simp only [List.length_append, List.length_cons, List.length_nil, length_gb, nb_mk, Nat.zero_add, hB0l]) <;> omega) | exact hat0 | refine at_more ?_) (by first | exact Nat.le_of_ble_eq_true rfl | ((simp only [List.drop_zero, List.length_cons, List.length_nil, length_gvL]) <;> decide)) ?_
  repeat' first
    | contradiction | exact trivial
    | (conv => whnf
       first | refine Need.mk (fun h => h) ?_ | refine Need.mk rfl ?_ | refine Need.mk ⟨rfl, Nat.le_of_ble_eq_true rfl⟩ ?_ | refine Need.mk (Nat.le_of_ble_eq_true rfl) ?_ | refine Need.fin ?_ | refine Need.mk ?_ ?_ | refine Ix.strsF rfl ?_ | refine Ix.strs rfl ?_ ?_ | refine Cut.strs rfl ?_ ?_ | refine Ix.mapF (fun _ => rfl) ?_ | refine Ix.map (fun _ => rfl) ?_ ?_ | refine Cut.map (fun _ => rfl) ?_ ?_ | refine Fork.yes (by assumption) ?_ | refine Fork.no (by assumption) ?_ | refine Fork.decYes (by omega) ?_ | refine Fork.decNo (by omega) ?_ | refine Fork.dec (fun _ => ?_) (fun _ => ?_) | refine Fork.bne (fun _ => ?_) (fun _ => ?_) | refine Fork.beq (fun _ => ?_) (fun _ => ?_) | refine Fork.seq (fun _ => ?_) (fun _ => ?_) | refine Fork.sne (fun _ => ?_) (fun _ => ?_) | refine Fork.neg (fun _ => ?_) (fun _ => ?_) | refine Fork.mk (fun _ => ?_) (fun _ => ?_) | refine HAlt.mk ?_ ?_ | apply HJoin.mk3 | exact HEnd.mk rfl rfl rfl | refine HEnd.mk ?_ ?_ ?_ | refine Round.mk ?_ | refine NilQ.mk (fun b hb => ?_) | refine forceK_of ?_ | refine forceBx_of ?_ | refine unG_old ?_ | refine unG_gv ?_ | refine Lit.read rfl ?_ | refine LitO.own rfl ?_ | refine FinVal.keep ?_ | refine FinAgg.keep ?_ | refine Final.mk rfl rfl | refine Final.mk ?_ rfl | refine Final.mk ?_ ?_ | refine FinalT.mk ?_ ?_ | refine FinalI.mk ?_ | refine FinalC.allA ?_)
    | refine AV.bool_congr ?_ | refine AV.int_congr ?_ | refine AV.str_congr ?_ | refine AV.list_congr ?_ | with_reducible rfl | refine fr1 ?_ | refine fr2 ?_ ?_
  conv => whnf
  refine ACall.old [.agg (oldL (tNetwork.q a0))] (.a [X0_0, X0_1, X0_2, X0_3, X0_4, .v (.int .i64 a0.2.2.2.2.2)]) hto0 (.cons (SeesB.of0 (Sees0.cut (ys := tNetwork.q a0) (by rfl))) .nil) okX0 ?_
  repeat' first
    | contradiction | exact trivial
    | (conv => whnf
       first | refine Need.mk (fun h => h) ?_ | refine Need.mk rfl ?_ | refine Need.mk ⟨rfl, Nat.le_of_ble_eq_true rfl⟩ ?_ | refine Need.mk (Nat.le_of_ble_eq_true rfl) ?_ | refine Need.fin ?_ | refine Need.mk ?_ ?_ | refine Ix.strsF rfl ?_ | refine Ix.strs rfl ?_ ?_ | refine Cut.strs rfl ?_ ?_ | refine Ix.mapF (fun _ => rfl) ?_ | refine Ix.map (fun _ => rfl) ?_ ?_ | refine Cut.map (fun _ => rfl) ?_ ?_ | refine Fork.yes (by assumption) ?_ | refine Fork.no (by assumption) ?_ | refine Fork.decYes (by omega) ?_ | refine Fork.decNo (by omega) ?_ | refine Fork.dec (fun _ => ?_) (fun _ => ?_) | refine Fork.bne (fun _ => ?_) (fun _ => ?_) | refine Fork.beq (fun _ => ?_) (fun _ => ?_) | refine Fork.seq (fun _ => ?_) (fun _ => ?_) | refine Fork.sne (fun _ => ?_) (fun _ => ?_) | refine Fork.neg (fun _ => ?_) (fun _ => ?_) | refine Fork.mk (fun _ => ?_) (fun _ => ?_) | refine HAlt.mk ?_ ?_ | apply HJoin.mk3 | exact HEnd.mk rfl rfl rfl | refine HEnd.mk ?_ ?_ ?_ | refine Round.mk ?_ | refine NilQ.mk (fun b hb => ?_) | refine forceK_of ?_ | refine forceBx_of ?_ | refine unG_old ?_ | refine unG_gv ?_ | refine Lit.read rfl ?_ | refine LitO.own rfl ?_ | refine FinVal.keep ?_ | refine FinAgg.keep ?_ | refine Final.mk rfl rfl | refine Final.mk ?_ rfl | refine Final.mk ?_ ?_ | refine FinalT.mk ?_ ?_ | refine FinalI.mk ?_ | refine FinalC.allA ?_)
    | refine AV.bool_congr ?_ | refine AV.int_congr ?_ | refine AV.str_congr ?_ | refine AV.list_congr ?_ | with_reducible rfl | refine fr1 ?_ | refine fr2 ?_ ?_
  conv => whnf
  refine ACall.scal [old (.a [X0_0, X0_1, X0_2, X0_3, X0_4, .v (.int .i64 a0.2.2.2.2.2)]), old (.a [X0_0, X0_1, X0_2, X0_3, X0_4, .v (.int .i64 a0.2.2.2.2.2)])] _ heX0 rfl (.cons (sees_gv (.a [X0_0, X0_1, X0_2, X0_3, X0_4, .v (.int .i64 a0.2.2.2.2.2)]) _ (1) okX0 (by repeat' first | (refine BoxIn.here ?_; (try simp only [List.length_append, List.length_cons, List.length_nil, length_gb, nb_mk, Nat.zero_add, hB0l]) <;> omega) | refine BoxIn.more ?_ _)) (.cons (SeesB.of0 (Sees0.old (.a [X0_0, X0_1, X0_2, X0_3, X0_4, .v (.int .i64 a0.2.2.2.2.2)]))) .nil)) ?_
  repeat' first
    | contradiction | exact trivial
    | (conv => whnf
       first | refine Need.mk (fun h => h) ?_ | refine Need.mk rfl ?_ | refine Need.mk ⟨rfl, Nat.le_of_ble_eq_true rfl⟩ ?_ | refine Need.mk (Nat.le_of_ble_eq_true rfl) ?_ | refine Need.fin ?_ | refine Need.mk ?_ ?_ | refine Ix.strsF rfl ?_ | refine Ix.strs rfl ?_ ?_ | refine Cut.strs rfl ?_ ?_ | refine Ix.mapF (fun _ => rfl) ?_ | refine Ix.map (fun _ => rfl) ?_ ?_ | refine Cut.map (fun _ => rfl) ?_ ?_ | refine Fork.yes (by assumption) ?_ | refine Fork.no (by assumption) ?_ | refine Fork.decYes (by omega) ?_ | refine Fork.decNo (by omega) ?_ | refine Fork.dec (fun _ => ?_) (fun _ => ?_) | refine Fork.bne (fun _ => ?_) (fun _ => ?_) | refine Fork.beq (fun _ => ?_) (fun _ => ?_) | refine Fork.seq (fun _ => ?_) (fun _ => ?_) | refine Fork.sne (fun _ => ?_) (fun _ => ?_) | refine Fork.neg (fun _ => ?_) (fun _ => ?_) | refine Fork.mk (fun _ => ?_) (fun _ => ?_) | refine HAlt.mk ?_ ?_ | apply HJoin.mk3 | exact HEnd.mk rfl rfl rfl | refine HEnd.mk ?_ ?_ ?_ | refine Round.mk ?_ | refine NilQ.mk (fun b hb => ?_) | refine forceK_of ?_ | refine forceBx_of ?_ | refine unG_old ?_ | refine unG_gv ?_ | refine Lit.read rfl ?_ | refine LitO.own rfl ?_ | refine FinVal.keep ?_ | refine FinAgg.keep ?_ | refine Final.mk rfl rfl | refine Final.mk ?_ rfl | refine Final.mk ?_ ?_ | refine FinalT.mk ?_ ?_ | refine FinalI.mk ?_ | refine FinalC.allA ?_)
    | refine AV.bool_congr ?_ | refine AV.int_congr ?_ | refine AV.str_congr ?_ | refine AV.list_congr ?_ | with_reducible rfl | refine fr1 ?_ | refine fr2 ?_ ?_
  conv => whnf
  refine ld_agg (by repeat' first | (refine at_here ?_; (try simp only [List.length_append, List.length_cons, List.length_nil, length_gb, nb_mk, Nat.zero_add, hB0l]) <;> omega) | exact hat0 | refine at_more ?_) (by first | exact Nat.le_of_ble_eq_true rfl | ((simp only [List.drop_zero, List.length_cons, List.length_nil, length_gvL]) <;> decide)) ?_
  repeat' first
    | contradiction | exact trivial
    | (conv => whnf
       first | refine Need.mk (fun h => h) ?_ | refine Need.mk rfl ?_ | refine Need.mk ⟨rfl, Nat.le_of_ble_eq_true rfl⟩ ?_ | refine Need.mk (Nat.le_of_ble_eq_true rfl) ?_ | refine Need.fin ?_ | refine Need.mk ?_ ?_ | refine Ix.strsF rfl ?_ | refine Ix.strs rfl ?_ ?_ | refine Cut.strs rfl ?_ ?_ | refine Ix.mapF (fun _ => rfl) ?_ | refine Ix.map (fun _ => rfl) ?_ ?_ | refine Cut.map (fun _ => rfl) ?_ ?_ | refine Fork.yes (by assumption) ?_ | refine Fork.no (by assumption) ?_ | refine Fork.decYes (by omega) ?_ | refine Fork.decNo (by omega) ?_ | refine Fork.dec (fun _ => ?_) (fun _ => ?_) | refine Fork.bne (fun _ => ?_) (fun _ => ?_) | refine Fork.beq (fun _ => ?_) (fun _ => ?_) | refine Fork.seq (fun _ => ?_) (fun _ => ?_) | refine Fork.sne (fun _ => ?_) (fun _ => ?_) | refine Fork.neg (fun _ => ?_) (fun _ => ?_) | refine Fork.mk (fun _ => ?_) (fun _ => ?_) | refine HAlt.mk ?_ ?_ | apply HJoin.mk3 | exact HEnd.mk rfl rfl rfl | refine HEnd.mk ?_ ?_ ?_ | refine Round.mk ?_ | refine NilQ.mk (fun b hb => ?_) | refine forceK_of ?_ | refine forceBx_of ?_ | refine unG_old ?_ | refine unG_gv ?_ | refine Lit.read rfl ?_ | refine LitO.own rfl ?_ | refine FinVal.keep ?_ | refine FinAgg.keep ?_ | refine Final.mk rfl rfl | refine Final.mk ?_ rfl | refine Final.mk ?_ ?_ | refine FinalT.mk ?_ ?_ | refine FinalI.mk ?_ | refine FinalC.allA ?_)
    | refine AV.bool_congr ?_ | refine AV.int_congr ?_ | refine AV.str_congr ?_ | refine AV.list_congr ?_ | with_reducible rfl | refine fr1 ?_ | refine fr2 ?_ ?_
  conv => whnf
  refine ACall.turnT (1) _ [gv (.a [X0_0, X0_1, X0_2, X0_3, X0_4, .v (.int .i64 a0.2.2.2.2.2)]) 0, .val (.int .i64 ((1 : Nat)))] (.a [X0_0, X0_1, X0_2, X0_3, X0_4, .v (.int .i64 a0.2.2.2.2.2)]) (mk (.a [X0_0, X0_1, X0_2, X0_3, X0_4, .v (.int .i64 a0.2.2.2.2.2)]) (1)) _ hmX0 rfl (nb_mk _ _) (.cons (.inl ⟨rfl, rfl⟩) (.cons (.inr (Sees0.val _)) .nil)) (by repeat' first | (refine TAt.here ?_; (try simp only [List.length_append, List.length_cons, List.length_nil, length_gb, nb_mk, Nat.zero_add, hB0l]) <;> omega) | apply TAt.more) ?_
  repeat' first
    | contradiction | exact trivial
    | (conv => whnf
       first | refine Need.mk (fun h => h) ?_ | refine Need.mk rfl ?_ | refine Need.mk ⟨rfl, Nat.le_of_ble_eq_true rfl⟩ ?_ | refine Need.mk (Nat.le_of_ble_eq_true rfl) ?_ | refine Need.fin ?_ | refine Need.mk ?_ ?_ | refine Ix.strsF rfl ?_ | refine Ix.strs rfl ?_ ?_ | refine Cut.strs rfl ?_ ?_ | refine Ix.mapF (fun _ => rfl) ?_ | refine Ix.map (fun _ => rfl) ?_ ?_ | refine Cut.map (fun _ => rfl) ?_ ?_ | refine Fork.yes (by assumption) ?_ | refine Fork.no (by assumption) ?_ | refine Fork.decYes (by omega) ?_ | refine Fork.decNo (by omega) ?_ | refine Fork.dec (fun _ => ?_) (fun _ => ?_) | refine Fork.bne (fun _ => ?_) (fun _ => ?_) | refine Fork.beq (fun _ => ?_) (fun _ => ?_) | refine Fork.seq (fun _ => ?_) (fun _ => ?_) | refine Fork.sne (fun _ => ?_) (fun _ => ?_) | refine Fork.neg (fun _ => ?_) (fun _ => ?_) | refine Fork.mk (fun _ => ?_) (fun _ => ?_) | refine HAlt.mk ?_ ?_ | apply HJoin.mk3 | exact HEnd.mk rfl rfl rfl | refine HEnd.mk ?_ ?_ ?_ | refine Round.mk ?_ | refine NilQ.mk (fun b hb => ?_) | refine forceK_of ?_ | refine forceBx_of ?_ | refine unG_old ?_ | refine unG_gv ?_ | refine Lit.read rfl ?_ | refine LitO.own rfl ?_ | refine FinVal.keep ?_ | refine FinAgg.keep ?_ | refine Final.mk rfl rfl | refine Final.mk ?_ rfl | refine Final.mk ?_ ?_ | refine FinalT.mk ?_ ?_ | refine FinalI.mk ?_ | refine FinalC.allA ?_)
    | refine AV.bool_congr ?_ | refine AV.int_congr ?_ | refine AV.str_congr ?_ | refine AV.list_congr ?_ | with_reducible rfl | refine fr1 ?_ | refine fr2 ?_ ?_
  conv => whnf
  (try refine AGCall.scal ?_)
  first
    | refine ACall.scal [old (G0), old (G0)] _ heG0 rfl (.cons (sees_gv (G0) _ (1 + nb (.a [X0_0, X0_1, X0_2, X0_3, X0_4, .v (.int .i64 a0.2.2.2.2.2)]) + 1) okG0 (by repeat' first | (refine BoxIn.here ?_; (try simp only [List.length_append, List.length_cons, List.length_nil, length_gb, nb_mk, Nat.zero_add, hB0l]) <;> omega) | refine BoxIn.more ?_ _)) (.cons (SeesB.of0 (Sees0.old (G0))) .nil)) ?_
    | refine AQCall.mk [old (G0), old (G0)] _ (fun _ => heG0) rfl (fun _ => .cons (sees_gv (G0) _ (1 + nb (.a [X0_0, X0_1, X0_2, X0_3, X0_4, .v (.int .i64 a0.2.2.2.2.2)]) + 1) okG0 (by repeat' first | (refine BoxIn.here ?_; (try simp only [List.length_append, List.length_cons, List.length_nil, length_gb, nb_mk, Nat.zero_add, hB0l]) <;> omega) | refine BoxIn.more ?_ _)) (.cons (SeesB.of0 (Sees0.old (G0))) .nil)) ?_
  repeat' first
    | contradiction | exact trivial
    | (conv => whnf
       first | refine Need.mk (fun h => h) ?_ | refine Need.mk rfl ?_ | refine Need.mk ⟨rfl, Nat.le_of_ble_eq_true rfl⟩ ?_ | refine Need.mk (Nat.le_of_ble_eq_true rfl) ?_ | refine Need.fin ?_ | refine Need.mk ?_ ?_ | refine Ix.strsF rfl ?_ | refine Ix.strs rfl ?_ ?_ | refine Cut.strs rfl ?_ ?_ | refine Ix.mapF (fun _ => rfl) ?_ | refine Ix.map (fun _ => rfl) ?_ ?_ | refine Cut.map (fun _ => rfl) ?_ ?_ | refine Fork.yes (by assumption) ?_ | refine Fork.no (by assumption) ?_ | refine Fork.decYes (by omega) ?_ | refine Fork.decNo (by omega) ?_ | refine Fork.dec (fun _ => ?_) (fun _ => ?_) | refine Fork.bne (fun _ => ?_) (fun _ => ?_) | refine Fork.beq (fun _ => ?_) (fun _ => ?_) | refine Fork.seq (fun _ => ?_) (fun _ => ?_) | refine Fork.sne (fun _ => ?_) (fun _ => ?_) | refine Fork.neg (fun _ => ?_) (fun _ => ?_) | refine Fork.mk (fun _ => ?_) (fun _ => ?_) | refine HAlt.mk ?_ ?_ | apply HJoin.mk3 | exact HEnd.mk rfl rfl rfl | refine HEnd.mk ?_ ?_ ?_ | refine Round.mk ?_ | refine NilQ.mk (fun b hb => ?_) | refine forceK_of ?_ | refine forceBx_of ?_ | refine unG_old ?_ | refine unG_gv ?_ | refine Lit.read rfl ?_ | refine LitO.own rfl ?_ | refine FinVal.keep ?_ | refine FinAgg.keep ?_ | refine Final.mk rfl rfl | refine Final.mk ?_ rfl | refine Final.mk ?_ ?_ | refine FinalT.mk ?_ ?_ | refine FinalI.mk ?_ | refine FinalC.allA ?_)
    | refine AV.bool_congr ?_ | refine AV.int_congr ?_ | refine AV.str_congr ?_ | refine AV.list_congr ?_ | with_reducible rfl | refine fr1 ?_ | refine fr2 ?_ ?_
  all_goals try (exfalso; rename_i hx; simp at hx; done)
  conv => whnf
  refine ACall.turnT (1 + nb (.a [X0_0, X0_1, X0_2, X0_3, X0_4, .v (.int .i64 a0.2.2.2.2.2)]) + 1) _ [gv (G0) 0, .val (.int .i64 ((1 : Nat)))] (G0) (mk (G0) (1)) _ hmG0 rfl (nb_mk _ _) (.cons (.inl ⟨rfl, rfl⟩) (.cons (.inr (Sees0.val _)) .nil)) (by repeat' first | (refine TAt.here ?_; (try simp only [List.length_append, List.length_cons, List.length_nil, length_gb, nb_mk, Nat.zero_add, hB0l]) <;> omega) | apply TAt.more) ?_
  repeat' first
    | contradiction | exact trivial
    | (conv => whnf
       first | refine Need.mk (fun h => h) ?_ | refine Need.mk rfl ?_ | refine Need.mk ⟨rfl, Nat.le_of_ble_eq_true rfl⟩ ?_ | refine Need.mk (Nat.le_of_ble_eq_true rfl) ?_ | refine Need.fin ?_ | refine Need.mk ?_ ?_ | refine Ix.strsF rfl ?_ | refine Ix.strs rfl ?_ ?_ | refine Cut.strs rfl ?_ ?_ | refine Ix.mapF (fun _ => rfl) ?_ | refine Ix.map (fun _ => rfl) ?_ ?_ | refine Cut.map (fun _ => rfl) ?_ ?_ | refine Fork.yes (by assumption) ?_ | refine Fork.no (by assumption) ?_ | refine Fork.decYes (by omega) ?_ | refine Fork.decNo (by omega) ?_ | refine Fork.dec (fun _ => ?_) (fun _ => ?_) | refine Fork.bne (fun _ => ?_) (fun _ => ?_) | refine Fork.beq (fun _ => ?_) (fun _ => ?_) | refine Fork.seq (fun _ => ?_) (fun _ => ?_) | refine Fork.sne (fun _ => ?_) (fun _ => ?_) | refine Fork.neg (fun _ => ?_) (fun _ => ?_) | refine Fork.mk (fun _ => ?_) (fun _ => ?_) | refine HAlt.mk ?_ ?_ | apply HJoin.mk3 | exact HEnd.mk rfl rfl rfl | refine HEnd.mk ?_ ?_ ?_ | refine Round.mk ?_ | refine NilQ.mk (fun b hb => ?_) | refine forceK_of ?_ | refine forceBx_of ?_ | refine unG_old ?_ | refine unG_gv ?_ | refine Lit.read rfl ?_ | refine LitO.own rfl ?_ | refine FinVal.keep ?_ | refine FinAgg.keep ?_ | refine Final.mk rfl rfl | refine Final.mk ?_ rfl | refine Final.mk ?_ ?_ | refine FinalT.mk ?_ ?_ | refine FinalI.mk ?_ | refine FinalC.allA ?_)
    | refine AV.bool_congr ?_ | refine AV.int_congr ?_ | refine AV.str_congr ?_ | refine AV.list_congr ?_ | with_reducible rfl | refine fr1 ?_ | refine fr2 ?_ ?_
  conv => whnf
  refine ACall.scal [old (mk (G0) (1)), .val (.int .i64 ((1 : Nat)))] _ hhG0 rfl (.cons (sees_mk (G0) (1) _ (1 + nb (.a [X0_0, X0_1, X0_2, X0_3, X0_4, .v (.int .i64 a0.2.2.2.2.2)]) + 1) okG0 (by repeat' first | (refine BoxIn.here ?_; (try simp only [List.length_append, List.length_cons, List.length_nil, length_gb, nb_mk, Nat.zero_add, hB0l]) <;> omega) | refine BoxIn.more ?_ _)) (.cons (SeesB.of0 (Sees0.val _)) .nil)) ?_
  repeat' first
    | contradiction | exact trivial
    | (conv => whnf
       first | refine Need.mk (fun h => h) ?_ | refine Need.mk rfl ?_ | refine Need.mk ⟨rfl, Nat.le_of_ble_eq_true rfl⟩ ?_ | refine Need.mk (Nat.le_of_ble_eq_true rfl) ?_ | refine Need.fin ?_ | refine Need.mk ?_ ?_ | refine Ix.strsF rfl ?_ | refine Ix.strs rfl ?_ ?_ | refine Cut.strs rfl ?_ ?_ | refine Ix.mapF (fun _ => rfl) ?_ | refine Ix.map (fun _ => rfl) ?_ ?_ | refine Cut.map (fun _ => rfl) ?_ ?_ | refine Fork.yes (by assumption) ?_ | refine Fork.no (by assumption) ?_ | refine Fork.decYes (by omega) ?_ | refine Fork.decNo (by omega) ?_ | refine Fork.dec (fun _ => ?_) (fun _ => ?_) | refine Fork.bne (fun _ => ?_) (fun _ => ?_) | refine Fork.beq (fun _ => ?_) (fun _ => ?_) | refine Fork.seq (fun _ => ?_) (fun _ => ?_) | refine Fork.sne (fun _ => ?_) (fun _ => ?_) | refine Fork.neg (fun _ => ?_) (fun _ => ?_) | refine Fork.mk (fun _ => ?_) (fun _ => ?_) | refine HAlt.mk ?_ ?_ | apply HJoin.mk3 | exact HEnd.mk rfl rfl rfl | refine HEnd.mk ?_ ?_ ?_ | refine Round.mk ?_ | refine NilQ.mk (fun b hb => ?_) | refine forceK_of ?_ | refine forceBx_of ?_ | refine unG_old ?_ | refine unG_gv ?_ | refine Lit.read rfl ?_ | refine LitO.own rfl ?_ | refine FinVal.keep ?_ | refine FinAgg.keep ?_ | refine Final.mk rfl rfl | refine Final.mk ?_ rfl | refine Final.mk ?_ ?_ | refine FinalT.mk ?_ ?_ | refine FinalI.mk ?_ | refine FinalC.allA ?_)
    | refine AV.bool_congr ?_ | refine AV.int_congr ?_ | refine AV.str_congr ?_ | refine AV.list_congr ?_ | with_reducible rfl | refine fr1 ?_ | refine fr2 ?_ ?_
  conv => whnf
  refine ld_agg (by repeat' first | (refine at_here ?_; (try simp only [List.length_append, List.length_cons, List.length_nil, length_gb, nb_mk, Nat.zero_add, hB0l]) <;> omega) | exact hat0 | refine at_more ?_) (by first | exact Nat.le_of_ble_eq_true rfl | ((simp only [List.drop_zero, List.length_cons, List.length_nil, length_gvL]) <;> decide)) ?_
  repeat' first
    | contradiction | exact trivial
    | (conv => whnf
       first | refine Need.mk (fun h => h) ?_ | refine Need.mk rfl ?_ | refine Need.mk ⟨rfl, Nat.le_of_ble_eq_true rfl⟩ ?_ | refine Need.mk (Nat.le_of_ble_eq_true rfl) ?_ | refine Need.fin ?_ | refine Need.mk ?_ ?_ | refine Ix.strsF rfl ?_ | refine Ix.strs rfl ?_ ?_ | refine Cut.strs rfl ?_ ?_ | refine Ix.mapF (fun _ => rfl) ?_ | refine Ix.map (fun _ => rfl) ?_ ?_ | refine Cut.map (fun _ => rfl) ?_ ?_ | refine Fork.yes (by assumption) ?_ | refine Fork.no (by assumption) ?_ | refine Fork.decYes (by omega) ?_ | refine Fork.decNo (by omega) ?_ | refine Fork.dec (fun _ => ?_) (fun _ => ?_) | refine Fork.bne (fun _ => ?_) (fun _ => ?_) | refine Fork.beq (fun _ => ?_) (fun _ => ?_) | refine Fork.seq (fun _ => ?_) (fun _ => ?_) | refine Fork.sne (fun _ => ?_) (fun _ => ?_) | refine Fork.neg (fun _ => ?_) (fun _ => ?_) | refine Fork.mk (fun _ => ?_) (fun _ => ?_) | refine HAlt.mk ?_ ?_ | apply HJoin.mk3 | exact HEnd.mk rfl rfl rfl | refine HEnd.mk ?_ ?_ ?_ | refine Round.mk ?_ | refine NilQ.mk (fun b hb => ?_) | refine forceK_of ?_ | refine forceBx_of ?_ | refine unG_old ?_ | refine unG_gv ?_ | refine Lit.read rfl ?_ | refine LitO.own rfl ?_ | refine FinVal.keep ?_ | refine FinAgg.keep ?_ | refine Final.mk rfl rfl | refine Final.mk ?_ rfl | refine Final.mk ?_ ?_ | refine FinalT.mk ?_ ?_ | refine FinalI.mk ?_ | refine FinalC.allA ?_)
    | refine AV.bool_congr ?_ | refine AV.int_congr ?_ | refine AV.str_congr ?_ | refine AV.list_congr ?_ | with_reducible rfl | refine fr1 ?_ | refine fr2 ?_ ?_
  conv => whnf
  refine ACall.old [.agg (oldL (tNetwork.q a0))] (.a [X0_0, X0_1, X0_2, X0_3, X0_4, .v (.int .i64 a0.2.2.2.2.2)]) hto0 (.cons (SeesB.of0 (Sees0.cut (ys := tNetwork.q a0) (by rfl))) .nil) okX0 ?_
  repeat' first
    | contradiction | exact trivial
    | (conv => whnf
       first | refine Need.mk (fun h => h) ?_ | refine Need.mk rfl ?_ | refine Need.mk ⟨rfl, Nat.le_of_ble_eq_true rfl⟩ ?_ | refine Need.mk (Nat.le_of_ble_eq_true rfl) ?_ | refine Need.fin ?_ | refine Need.mk ?_ ?_ | refine Ix.strsF rfl ?_ | refine Ix.strs rfl ?_ ?_ | refine Cut.strs rfl ?_ ?_ | refine Ix.mapF (fun _ => rfl) ?_ | refine Ix.map (fun _ => rfl) ?_ ?_ | refine Cut.map (fun _ => rfl) ?_ ?_ | refine Fork.yes (by assumption) ?_ | refine Fork.no (by assumption) ?_ | refine Fork.decYes (by omega) ?_ | refine Fork.decNo (by omega) ?_ | refine Fork.dec (fun _ => ?_) (fun _ => ?_) | refine Fork.bne (fun _ => ?_) (fun _ => ?_) | refine Fork.beq (fun _ => ?_) (fun _ => ?_) | refine Fork.seq (fun _ => ?_) (fun _ => ?_) | refine Fork.sne (fun _ => ?_) (fun _ => ?_) | refine Fork.neg (fun _ => ?_) (fun _ => ?_) | refine Fork.mk (fun _ => ?_) (fun _ => ?_) | refine HAlt.mk ?_ ?_ | apply HJoin.mk3 | exact HEnd.mk rfl rfl rfl | refine HEnd.mk ?_ ?_ ?_ | refine Round.mk ?_ | refine NilQ.mk (fun b hb => ?_) | refine forceK_of ?_ | refine forceBx_of ?_ | refine unG_old ?_ | refine unG_gv ?_ | refine Lit.read rfl ?_ | refine LitO.own rfl ?_ | refine FinVal.keep ?_ | refine FinAgg.keep ?_ | refine Final.mk rfl rfl | refine Final.mk ?_ rfl | refine Final.mk ?_ ?_ | refine FinalT.mk ?_ ?_ | refine FinalI.mk ?_ | refine FinalC.allA ?_)
    | refine AV.bool_congr ?_ | refine AV.int_congr ?_ | refine AV.str_congr ?_ | refine AV.list_congr ?_ | with_reducible rfl | refine fr1 ?_ | refine fr2 ?_ ?_
  conv => whnf
  refine ACall.old [old (.a [X0_0, X0_1, X0_2, X0_3, X0_4, .v (.int .i64 a0.2.2.2.2.2)]), .val (.int .i64 a1)] (G0) hp' (.cons (SeesB.of0 (Sees0.old (.a [X0_0, X0_1, X0_2, X0_3, X0_4, .v (.int .i64 a0.2.2.2.2.2)]))) (.cons (SeesB.of0 (Sees0.val _)) .nil)) okR ?_
  repeat' first
    | contradiction | exact trivial
    | (conv => whnf
       first | refine Need.mk (fun h => h) ?_ | refine Need.mk rfl ?_ | refine Need.mk ⟨rfl, Nat.le_of_ble_eq_true rfl⟩ ?_ | refine Need.mk (Nat.le_of_ble_eq_true rfl) ?_ | refine Need.fin ?_ | refine Need.mk ?_ ?_ | refine Ix.strsF rfl ?_ | refine Ix.strs rfl ?_ ?_ | refine Cut.strs rfl ?_ ?_ | refine Ix.mapF (fun _ => rfl) ?_ | refine Ix.map (fun _ => rfl) ?_ ?_ | refine Cut.map (fun _ => rfl) ?_ ?_ | refine Fork.yes (by assumption) ?_ | refine Fork.no (by assumption) ?_ | refine Fork.decYes (by omega) ?_ | refine Fork.decNo (by omega) ?_ | refine Fork.dec (fun _ => ?_) (fun _ => ?_) | refine Fork.bne (fun _ => ?_) (fun _ => ?_) | refine Fork.beq (fun _ => ?_) (fun _ => ?_) | refine Fork.seq (fun _ => ?_) (fun _ => ?_) | refine Fork.sne (fun _ => ?_) (fun _ => ?_) | refine Fork.neg (fun _ => ?_) (fun _ => ?_) | refine Fork.mk (fun _ => ?_) (fun _ => ?_) | refine HAlt.mk ?_ ?_ | apply HJoin.mk3 | exact HEnd.mk rfl rfl rfl | refine HEnd.mk ?_ ?_ ?_ | refine Round.mk ?_ | refine NilQ.mk (fun b hb => ?_) | refine forceK_of ?_ | refine forceBx_of ?_ | refine unG_old ?_ | refine unG_gv ?_ | refine Lit.read rfl ?_ | refine LitO.own rfl ?_ | refine FinVal.keep ?_ | refine FinAgg.keep ?_ | refine Final.mk rfl rfl | refine Final.mk ?_ rfl | refine Final.mk ?_ ?_ | refine FinalT.mk ?_ ?_ | refine FinalI.mk ?_ | refine FinalC.allA ?_)
    | refine AV.bool_congr ?_ | refine AV.int_congr ?_ | refine AV.str_congr ?_ | refine AV.list_congr ?_ | with_reducible rfl | refine fr1 ?_ | refine fr2 ?_ ?_
  conv => whnf
  (try refine AGCall.scal ?_)
  first
    | refine ACall.scal [old (G0), old (G0)] _ heG0 rfl (.cons (SeesB.of0 (Sees0.old (G0))) (.cons (SeesB.of0 (Sees0.old (G0))) .nil)) ?_
    | refine AQCall.mk [old (G0), old (G0)] _ (fun _ => heG0) rfl (fun _ => .cons (SeesB.of0 (Sees0.old (G0))) (.cons (SeesB.of0 (Sees0.old (G0))) .nil)) ?_
  repeat' first
    | contradiction | exact trivial
    | (conv => whnf
       first | refine Need.mk (fun h => h) ?_ | refine Need.mk rfl ?_ | refine Need.mk ⟨rfl, Nat.le_of_ble_eq_true rfl⟩ ?_ | refine Need.mk (Nat.le_of_ble_eq_true rfl) ?_ | refine Need.fin ?_ | refine Need.mk ?_ ?_ | refine Ix.strsF rfl ?_ | refine Ix.strs rfl ?_ ?_ | refine Cut.strs rfl ?_ ?_ | refine Ix.mapF (fun _ => rfl) ?_ | refine Ix.map (fun _ => rfl) ?_ ?_ | refine Cut.map (fun _ => rfl) ?_ ?_ | refine Fork.yes (by assumption) ?_ | refine Fork.no (by assumption) ?_ | refine Fork.decYes (by omega) ?_ | refine Fork.decNo (by omega) ?_ | refine Fork.dec (fun _ => ?_) (fun _ => ?_) | refine Fork.bne (fun _ => ?_) (fun _ => ?_) | refine Fork.beq (fun _ => ?_) (fun _ => ?_) | refine Fork.seq (fun _ => ?_) (fun _ => ?_) | refine Fork.sne (fun _ => ?_) (fun _ => ?_) | refine Fork.neg (fun _ => ?_) (fun _ => ?_) | refine Fork.mk (fun _ => ?_) (fun _ => ?_) | refine HAlt.mk ?_ ?_ | apply HJoin.mk3 | exact HEnd.mk rfl rfl rfl | refine HEnd.mk ?_ ?_ ?_ | refine Round.mk ?_ | refine NilQ.mk (fun b hb => ?_) | refine forceK_of ?_ | refine forceBx_of ?_ | refine unG_old ?_ | refine unG_gv ?_ | refine Lit.read rfl ?_ | refine LitO.own rfl ?_ | refine FinVal.keep ?_ | refine FinAgg.keep ?_ | refine Final.mk rfl rfl | refine Final.mk ?_ rfl | refine Final.mk ?_ ?_ | refine FinalT.mk ?_ ?_ | refine FinalI.mk ?_ | refine FinalC.allA ?_)
    | refine AV.bool_congr ?_ | refine AV.int_congr ?_ | refine AV.str_congr ?_ | refine AV.list_congr ?_ | with_reducible rfl | refine fr1 ?_ | refine fr2 ?_ ?_
  all_goals try (exfalso; rename_i hx; simp at hx; done)
  conv => whnf
  refine ACall.scal [old (mk (G0) (1)), .val (.int .i64 ((1 : Nat)))] _ hhG0 rfl (.cons (sees_mk (G0) (1) _ (1 + nb (.a [X0_0, X0_1, X0_2, X0_3, X0_4, .v (.int .i64 a0.2.2.2.2.2)]) + 1) okG0 (by repeat' first | (refine BoxIn.here ?_; (try simp only [List.length_append, List.length_cons, List.length_nil, length_gb, nb_mk, Nat.zero_add, hB0l]) <;> omega) | refine BoxIn.more ?_ _)) (.cons (SeesB.of0 (Sees0.val _)) .nil)) ?_
  repeat' first
    | contradiction | exact trivial
    | (conv => whnf
       first | refine Need.mk (fun h => h) ?_ | refine Need.mk rfl ?_ | refine Need.mk ⟨rfl, Nat.le_of_ble_eq_true rfl⟩ ?_ | refine Need.mk (Nat.le_of_ble_eq_true rfl) ?_ | refine Need.fin ?_ | refine Need.mk ?_ ?_ | refine Ix.strsF rfl ?_ | refine Ix.strs rfl ?_ ?_ | refine Cut.strs rfl ?_ ?_ | refine Ix.mapF (fun _ => rfl) ?_ | refine Ix.map (fun _ => rfl) ?_ ?_ | refine Cut.map (fun _ => rfl) ?_ ?_ | refine Fork.yes (by assumption) ?_ | refine Fork.no (by assumption) ?_ | refine Fork.decYes (by omega) ?_ | refine Fork.decNo (by omega) ?_ | refine Fork.dec (fun _ => ?_) (fun _ => ?_) | refine Fork.bne (fun _ => ?_) (fun _ => ?_) | refine Fork.beq (fun _ => ?_) (fun _ => ?_) | refine Fork.seq (fun _ => ?_) (fun _ => ?_) | refine Fork.sne (fun _ => ?_) (fun _ => ?_) | refine Fork.neg (fun _ => ?_) (fun _ => ?_) | refine Fork.mk (fun _ => ?_) (fun _ => ?_) | refine HAlt.mk ?_ ?_ | apply HJoin.mk3 | exact HEnd.mk rfl rfl rfl | refine HEnd.mk ?_ ?_ ?_ | refine Round.mk ?_ | refine NilQ.mk (fun b hb => ?_) | refine forceK_of ?_ | refine forceBx_of ?_ | refine unG_old ?_ | refine unG_gv ?_ | refine Lit.read rfl ?_ | refine LitO.own rfl ?_ | refine FinVal.keep ?_ | refine FinAgg.keep ?_ | refine Final.mk rfl rfl | refine Final.mk ?_ rfl | refine Final.mk ?_ ?_ | refine FinalT.mk ?_ ?_ | refine FinalI.mk ?_ | refine FinalC.allA ?_)
    | refine AV.bool_congr ?_ | refine AV.int_congr ?_ | refine AV.str_congr ?_ | refine AV.list_congr ?_ | with_reducible rfl | refine fr1 ?_ | refine fr2 ?_ ?_
end Go.Proofs.Ytfnejdkkhpjhmaa
namespace Go.Proofs.Ytfnejdkkhpjhmaa
open Abs
theorem pathF_sz (ns : List VNode) : ∀ (m : Nat) (k : Int), k.toNat = m → k < ns.length → listSize tCond (pathF ns k) ≤ listSize tNode (ns.take (m + 1)) := fun m => by
  induction m using Nat.strongRecOn with
  | _ m ih =>
    intro k e hk
    by_cases hc : 0 < k ∧ k < ns.length
    · have hm : m < ns.length := by omega
      have h1 := listSize_take_succ tNode (tNode_get hm)
      have h2 := tNode_size (ns.getD m default)
      have h3 : ∀ l, listSize tCond (l ++ [(ns.getD m default).2.1]) = listSize tCond l + tCond.size (ns.getD m default).2.1 := fun l => by
        induction l with
        | nil => show tCond.size _ + 0 = 0 + tCond.size _; omega
        | cons a l ih => show tCond.size a + listSize tCond (l ++ _) = tCond.size a + listSize tCond l + _; omega
      by_cases hp : (ns.getD k.toNat default).1 < k
      · rw [pathF_go hc hp, e, h3, h1]
        rw [e] at hp
        have h4 := ih (ns.getD m default).1.toNat (by omega) _ rfl (by omega)
        have h5 := listSize_take_le tNode (ns.take m) ((ns.getD m default).1.toNat + 1)
        rw [List.take_take, Nat.min_eq_left (by omega)] at h5
        omega
      · have h4 := h3 []
        rw [pathF_stop hc hp, e]
        rw [List.nil_append] at h4
        rw [h4, h1]
        show 0 + _ ≤ _
        omega
    · rw [pathF_end hc]; exact Nat.zero_le _
theorem pathF_size (n : VNetwork) (k : Int) (h : tNetwork.size n ≤ 1048576) : tConds.size (pathF n.2.2.2.1 k) ≤ 1073741824 := by
  rw [tNetwork_size, tNodes_sz] at h
  have h1 := pathF_len n.2.2.2.1 k
  show (pathF n.2.2.2.1 k).length + listSize tCond (pathF n.2.2.2.1 k) ≤ _
  by_cases hk : k < n.2.2.2.1.length
  · have h2 := pathF_sz n.2.2.2.1 _ k rfl hk
    have h3 := listSize_take_le tNode n.2.2.2.1 (k.toNat + 1)
    omega
  · rw [pathF_end (by omega)]; show 0 + 0 ≤ _; omega
theorem lawExactPathOf.ret (a0 : VNetwork) (a1 : Int) (hb0 : tNetwork.bd a0) (hb1 : Ty.int.bd a1) : lawExactPathOf.Ret [.agg (oldL (tNetwork.q a0)), .val (.int .i64 a1)] (.val (.bool true)) [] :=
  lawExactPathOf.of_own a0 a1 hb0 hb1 fun h => ⟨_, pathF_size a0 a1 h, sPathOf.own a0 a1 h, pPathOf.own a0 a1 h⟩
end Go.Proofs.Ytfnejdkkhpjhmaa
namespace Go.Proofs.Ytfnejdkkhpjhmaa
def headSigns : List Nat := [104, 97, 114, 110, 101, 115, 115, 32, 101, 53, 98, 52, 56, 48, 101, 51, 99, 99, 98, 98, 97, 100, 99, 52, 50, 56, 49, 54, 53, 56, 50, 51, 57, 97, 99, 51, 56, 54, 52, 52, 52, 54, 50, 51, 99, 51, 57, 50, 98, 48, 56, 98, 102, 99, 99, 54, 102, 49, 57, 55, 54, 53, 97, 54, 51, 52, 102, 99, 52, 49, 55, 56, 32, 99, 117, 116, 32, 97, 116, 32, 108, 111, 111, 112, 46, 101, 120, 97, 109, 112, 108, 101, 47, 103, 48, 51, 48, 49, 53, 47, 108, 97, 119, 115, 46, 70, 110, 69, 120, 97, 99, 116, 69, 120, 116, 101, 110, 100, 32, 108, 111, 111, 112, 46, 101, 120, 97, 109, 112, 108, 101, 47, 103, 48, 51, 48, 49, 53, 47, 108, 97, 119, 115, 46, 70, 110, 69, 120, 97, 99, 116, 80, 97, 116, 104, 79, 102, 32, 108, 111, 111, 112, 46, 101, 120, 97, 109, 112, 108, 101, 47, 103, 48, 51, 48, 49, 53, 47, 108, 97, 119, 115, 46, 70, 110, 69, 120, 97, 99, 116, 78, 101, 116, 119, 111, 114, 107, 83, 105, 122, 101, 32, 108, 111, 111, 112, 46, 101, 120, 97, 109, 112, 108, 101, 47, 103, 48, 51, 48, 49, 53, 47, 108, 97, 119, 115, 46, 70, 110, 69, 120, 97, 99, 116, 83, 97, 109, 101, 77, 101, 109, 111, 114, 105, 101, 115]
theorem Abs.head : Try.prog.initOrder = String.ofList (headSigns.map Char.ofNat) := by kernel_rfl
theorem Abs.signs : Try.prog.initOrder.toList = headSigns.map Char.ofNat := by rw [Abs.head, String.toList_ofList]
def headWords : List (List Nat) := [[99, 117, 116], [97, 116], [108, 111, 111, 112, 46, 101, 120, 97, 109, 112, 108, 101, 47, 103, 48, 51, 48, 49, 53, 47, 108, 97, 119, 115, 46, 70, 110, 69, 120, 97, 99, 116, 69, 120, 116, 101, 110, 100], [108, 111, 111, 112, 46, 101, 120, 97, 109, 112, 108, 101, 47, 103, 48, 51, 48, 49, 53, 47, 108, 97, 119, 115, 46, 70, 110, 69, 120, 97, 99, 116, 80, 97, 116, 104, 79, 102], [108, 111, 111, 112, 46, 101, 120, 97, 109, 112, 108, 101, 47, 103, 48, 51, 48, 49, 53, 47, 108, 97, 119, 115, 46, 70, 110, 69, 120, 97, 99, 116, 78, 101, 116, 119, 111, 114, 107, 83, 105, 122, 101], [108, 111, 111, 112, 46, 101, 120, 97, 109, 112, 108, 101, 47, 103, 48, 51, 48, 49, 53, 47, 108, 97, 119, 115, 46, 70, 110, 69, 120, 97, 99, 116, 83, 97, 109, 101, 77, 101, 109, 111, 114, 105, 101, 115]]
theorem Abs.words : behindMainWord (wordsSigns (headSigns.map Char.ofNat)) = headWords.map fun w => w.map Char.ofNat := by kernel_rfl
theorem Abs.heads : behindMainWord (wordsSigns Try.prog.initOrder.toList) = headWords.map fun w => w.map Char.ofNat := by rw [Abs.signs, Abs.words]
theorem enters_gen (P : Program) (h : behindMainWord (wordsSigns P.initOrder.toList) = headWords.map fun w => w.map Char.ofNat) (h1 : P.laysLater = false) (h2 : P.bearsReflect = false) (h3 : P.doorFits [] = true) : P.mayEnter = true := by
  have h4 : stripLifts liftWords (headWords.map fun w => w.map Char.ofNat) = ([], headWords.map fun w => w.map Char.ofNat) := by kernel_rfl
  have h5 : (headWords.map fun w => w.map Char.ofNat) = (headWords.headD []).map Char.ofNat :: (headWords.tail.map fun w => w.map Char.ofNat) := rfl
  unfold Program.mayEnter
  rw [h, h1, h2, h5]
  simp only []
  rw [← h5, h4]
  simp only []
  rw [h3]
  rfl
theorem final_gen (P : Program) (h : behindMainWord (wordsSigns P.initOrder.toList) = headWords.map fun w => w.map Char.ofNat) : P.liftsFinal = false := by
  unfold Program.liftsFinal Program.headLifts
  rw [h]
  kernel_rfl
theorem made_gen (P : Program) (h : behindMainWord (wordsSigns P.initOrder.toList) = headWords.map fun w => w.map Char.ofNat) : P.make = some .cut := by
  unfold Program.make
  rw [h]
  rfl
theorem Abs.enters : Try.prog.mayEnter = true := enters_gen _ Abs.heads (by kernel_rfl) (by kernel_rfl) (by kernel_rfl)
theorem Abs.final : Try.prog.liftsFinal = false := final_gen _ Abs.heads
theorem Abs.made : Try.prog.make = some .cut := made_gen _ Abs.heads
theorem Abs.rowed : mapsRowed Try.prog = true := by kernel_rfl
theorem Abs.laidOut : laidOutB Try.prog = true := by kernel_rfl
/-- the closed facts of a row, without what is known already -/
def joinedLess (P : Program) (f : FuncId) (fn : Func) (s : ChangeSpec) (c : OpenClaim) (h1 : P.mayEnter = true) (h2 : P.liftsFinal = false) (h3 : P.make = some .cut) (h4 : mapsRowed P = true) (h5 : laidOutB P = true) : {b : Bool // joinedFacts P f fn s c = b} := by
  refine ⟨?b, ?h⟩
  case h =>
    unfold joinedFacts
    rw [h1, h2, h3, h4, h5]
theorem Abs.closed {f : FuncId} {fn : Func} {s : ChangeSpec} {c : OpenClaim} (h : (joinedLess Try.prog f fn s c Abs.enters Abs.final Abs.made Abs.rowed Abs.laidOut).1 = true) : joinedFacts Try.prog f fn s c = true :=
  (joinedLess Try.prog f fn s c Abs.enters Abs.final Abs.made Abs.rowed Abs.laidOut).2.trans h
end Go.Proofs.Ytfnejdkkhpjhmaa
namespace Go.Proofs.Ytfnejdkkhpjhmaa
namespace Abs
variable {mo : Bool}
open Go.ChangeShapes Go.WideShapes Go.ChangeAt Go.RowKit
section
variable {H : Type} {enc : TypeId × Value → H} {P : Program}
theorem trodAll_stays {base : Nat} (hl : laidOutB P = true) {W W' : World} {sp' : Nat → Bool} : ∀ {ts : List TypeId} {vs : List Value} {ds : List (DataW H)} {ps : List MemPlace},
    (∀ t ∈ ts, P.readableRec t = true ∧ t < P.types.size) → DataW.TrodAll enc P W base (fun _ => true) true ts vs ds ps → (∀ p ∈ ps, W.sameAt W' p) → (∀ p ∈ ps, sp' p.block = true) →
    DataW.TrodAll enc P W' base sp' true ts vs ds ps
  | [], [], [], _, _, h, _, _ => h
  | t :: ts, v :: vs, d :: ds, _, ht, h, hs, hp => by
    obtain ⟨p, q, h1, h2, rfl⟩ := h
    exact ⟨p, q, WideElems.Trod_stays hl (ht t (by simp)).1 (ht t (by simp)).2 h1 (fun x hx => hs x (by simp [hx])) (fun x hx => hp x (by simp [hx])),
      trodAll_stays hl (fun t h => ht t (by simp [h])) h2 (fun x hx => hs x (by simp [hx])) (fun x hx => hp x (by simp [hx])), rfl⟩
/-- a law that says yes, and leaves what was there alone -/
theorem law_post {f : Func} {s : ChangeSpec} {apart fresh handsOn again : Bool} {W W' : World} {args : Array Value} {ds gs : List (DataW H)} {before : List MemPlace} {tb : TypeId}
    (hl : laidOutB P = true) (hv : s.vars = []) (hp : ∀ t ∈ f.params.toList, P.readableRec t = true ∧ t < P.types.size) (hr : f.resultTypes = #[tb]) (htb : P.underlying tb = some .bool)
    (hW : DataW.Whole enc P f.params.toList s.vars apart W args.toList ds gs before) (hb : Bel mo W.heap.size W W')
    (hfn : s.fn H (ds ++ gs) = { results := [.lit (.bool true)], args := ds }) : s.post enc P f apart fresh handsOn again W args (.bool true) W' := by
  have hlt : ∀ p ∈ before, p.block < W.heap.size := fun p hp => hW.lt p hp
  have hW' := hW
  obtain ⟨p, q, hA, hV, hpq, hz, hn⟩ := hW
  rw [hv] at hV
  obtain ⟨hg, hq⟩ : gs = [] ∧ q = [] := trodVars_none hV
  subst hg; subst hq
  simp only [List.append_nil] at hpq hfn hz hn
  subst hpq
  have hargs : ∀ sp : Nat → Bool, (∀ x ∈ before, sp x.block = true) → DataW.TrodAll enc P W' 0 sp true f.params.toList args.toList ds before :=
    fun sp hsp => trodAll_stays hl hp hA (fun x hx => hb.same (hlt x hx)) hsp
  have hres : ∀ (b : Nat) (sp : Nat → Bool) (hd : Bool), DataW.TrodAll enc P W' b sp hd f.resultTypes.toList ((Value.bool true).resultList f.resultTypes.size) [.lit (.bool true)] [] := fun b sp hd => by
    rw [hr]
    exact trodAll_mk1 (shut_bool htb true)
  have hvars : ∀ sp : Nat → Bool, DataW.TrodVars enc P W' sp s.vars [] [] := fun sp => by rw [hv]; rfl
  have hfn' : s.fn H (ds ++ []) = { results := [.lit (.bool true)], args := ds } := by rw [List.append_nil]; exact hfn
  refine ⟨ds, [], before, [], before, [], hW', by rw [hfn']; exact hres _ _ _, by rw [hfn']; exact hargs _ (fun x hx => by simpa using hlt x hx), by rw [hfn']; exact hvars _, hb.frame _, fun _ => ?_⟩
  refine ⟨ok_one hr rfl (okWide_bool_mk htb true), _, _, ([] ++ before) ++ [], ⟨[] ++ before, [], trodAll_append (hargs _ (fun _ _ => rfl)) (hres _ _ _), hvars _, rfl, ?_, ?_⟩, ?_⟩
  · intro b off hp'
    have hm : MemPlace.cell b off ∈ before := by simpa using hp'
    rw [hb.frozen (hlt _ hm)]
    exact hz b off hm
  · intro ha
    simpa using hn ha
  · intro x hx _
    simpa using hx
end
/-- the call's own result -/
theorem law_ret {P : Program} {fid : Nat} {avs : List AV} {args : Array Value} {W : World} (h : Ret mo P fid avs (.val (.bool true)) []) (hc : CondB W []) (hB : Both (Rep W.heap.size W (allF W) [] [] []) avs args.toList) :
    Calls P fid args W fun e w' => e = .returned (.bool true) ∧ Bel mo W.heap.size W w' := by
  rw [Ret_eq] at h
  obtain ⟨_, hR⟩ := h
  refine (hR W (allF W) args hc (fun b hb => allF_out W b hb) hB).mono ?_
  rintro e W' ⟨v, F', tok, box, rfl, hb, _, _, _, _, _, hrep⟩
  cases hrep
  exact ⟨rfl, hb⟩
theorem both_nil {R : AV → Value → Prop} : Both R [] [] := ⟨rfl, by simp⟩
end Abs
theorem Abs.own : ownKnob Try.prog.godebug = none := by kernel_rfl
end Go.Proofs.Ytfnejdkkhpjhmaa
