/-
  Facts: marked, and looked at for their marks.
-/
import Derived.Test.YtamcaplpgmloiaaC12
namespace Go.Proofs.Ytamcaplpgmloiaa
open Abs

theorem takeAV_one {n : Nat} {cs : List AV} {k : AV → Prop} (c : AV) (r : List AV) (h : cs = c :: r) (hk : k c) : takeAV false n cs k := by subst h; exact hk
theorem gbL_fct (f : Fct) (n : Nat) : gb (.a (tFct.q f)) n = gb (strT f.2) n := by
  show gb (.s f.1) n ++ (gb (strT f.2) (n + 0) ++ []) = _
  rw [List.append_nil]; rfl
theorem gv_fct (f : Fct) (n : Nat) : gv (.a (tFct.q f)) n = .agg [.str f.1, .bsl n f.2.length] := by
  show AV.agg [.str f.1, gv (strT f.2) (n + 0)] = _
  rw [gv_strT]; rfl
theorem nb_fct (f : Fct) : nb (.a (tFct.q f)) = 1 := by
  show 0 + (nb (strT f.2) + 0) = 1
  rw [nb_strT]
theorem markFact.turn (f : Fct) (k : Nat) (hk : k + f.2.length ≤ 1099511627775) :
    markFact.Turn (gb (.a (tFct.q f)) 0) [gv (.a (tFct.q f)) 0, .val (.int .i64 k)] (.val (.int .i64 ((k + f.2.length : Nat)))) (gb (.a (tFct.q (f.1, markL f.2.length k))) 0) := by
  refine markFact.ofT rfl rfl (by rw [length_gb, nb_fct, nb_fct]) ?_
  rw [gbL_fct, gbL_fct, gb_strT, gb_strT, gv_fct]
  repeat' first
    | contradiction
    | (conv => whnf
       first
         | refine Need.mk (fun h => h) ?_
         | refine Need.mk rfl ?_
         | refine Need.mk ⟨rfl, Nat.le_of_ble_eq_true rfl⟩ ?_
         | refine Need.mk (Nat.le_of_ble_eq_true rfl) ?_
         | refine Need.mk (by intros; (try simp only [length_strs] at *); (try simp only [length_rows] at *); (try simp only [length_oldLL, List.length_map] at *); (try simp only [Bool.and_eq_true, decide_eq_true_eq] at *); omega) ?_
         | refine Need.mk ?_ ?_
         | refine Ix.strs rfl (by intros; (try simp only [length_strs] at *); (try simp only [length_rows] at *); (try simp only [length_oldLL, List.length_map] at *); (try simp only [Bool.and_eq_true, decide_eq_true_eq] at *); omega) ?_
         | refine Ix.strs rfl ?_ ?_
         | refine Cut.strs rfl ?_ ?_
         | refine Ix.map (fun _ => rfl) (by intros; (try simp only [length_strs] at *); (try simp only [length_rows] at *); (try simp only [length_oldLL, List.length_map] at *); (try simp only [Bool.and_eq_true, decide_eq_true_eq] at *); omega) ?_
         | refine Ix.map (fun _ => rfl) ?_ ?_
         | refine Cut.map (fun _ => rfl) ?_ ?_
         | refine Fork.yes (by assumption) ?_
         | refine Fork.no (by assumption) ?_
         | refine Fork.decYes (by omega) ?_
         | refine Fork.decNo (by omega) ?_
         | refine Fork.dec (fun _ => ?_) (fun _ => ?_)
         | refine Fork.bne (fun _ => ?_) (fun _ => ?_)
         | refine Fork.beq (fun _ => ?_) (fun _ => ?_)
         | refine Fork.seq (fun _ => ?_) (fun _ => ?_)
         | refine Fork.sne (fun _ => ?_) (fun _ => ?_)
         | refine Fork.neg (fun _ => ?_) (fun _ => ?_)
         | refine Fork.mk (fun _ => ?_) (fun _ => ?_)
         | refine Round.mk ?_
         | refine NilQ.mk (fun b hb => ?_)
         | refine forceK_of ?_
         | refine forceBx_of ?_
         | refine unG_old ?_
         | refine unG_gv ?_
         | refine Lit.read rfl ?_
         | refine FinVal.keep ?_
         | refine FinAgg.keep ?_
         | refine Final.mk rfl rfl
         | refine Final.mk ?_ rfl
         | refine Final.mk ?_ ?_
         | refine FinalT.mk ?_ ?_)
    | refine AV.bool_congr ?_
    | refine AV.int_congr ?_
    | refine AV.str_congr ?_
    | refine AV.list_congr ?_
    | with_reducible rfl
    | refine fr1 ?_
    | refine fr2 ?_ ?_
  conv => whnf
  refine ACall.turn rfl [gv (strT f.2) 0, .val (.int .i64 k)] (strT f.2) (strT (markL f.2.length k)) _ [] [.cells .var [.str f.1, .bsl 0 f.2.length]] (markStringS.turn f.2 k hk) rfl ?_ ?_ ?_ ?_
  · rw [gb_strT]; rfl
  · rw [nb_strT, nb_strT]
  · rw [gv_strT]
    exact .cons (.inl ⟨by rw [gv_strT]; rfl, by rw [gv_strT]⟩) (.cons (.inr (Sees0.val _)) .nil)
  rw [gb_strT]
  repeat' first
    | contradiction
    | (conv => whnf
       first
         | refine Need.mk (fun h => h) ?_
         | refine Need.mk rfl ?_
         | refine Need.mk ⟨rfl, Nat.le_of_ble_eq_true rfl⟩ ?_
         | refine Need.mk (Nat.le_of_ble_eq_true rfl) ?_
         | refine Need.mk (by intros; (try simp only [length_strs] at *); (try simp only [length_rows] at *); (try simp only [length_oldLL, List.length_map] at *); (try simp only [Bool.and_eq_true, decide_eq_true_eq] at *); omega) ?_
         | refine Need.mk ?_ ?_
         | refine Ix.strs rfl (by intros; (try simp only [length_strs] at *); (try simp only [length_rows] at *); (try simp only [length_oldLL, List.length_map] at *); (try simp only [Bool.and_eq_true, decide_eq_true_eq] at *); omega) ?_
         | refine Ix.strs rfl ?_ ?_
         | refine Cut.strs rfl ?_ ?_
         | refine Ix.map (fun _ => rfl) (by intros; (try simp only [length_strs] at *); (try simp only [length_rows] at *); (try simp only [length_oldLL, List.length_map] at *); (try simp only [Bool.and_eq_true, decide_eq_true_eq] at *); omega) ?_
         | refine Ix.map (fun _ => rfl) ?_ ?_
         | refine Cut.map (fun _ => rfl) ?_ ?_
         | refine Fork.yes (by assumption) ?_
         | refine Fork.no (by assumption) ?_
         | refine Fork.decYes (by omega) ?_
         | refine Fork.decNo (by omega) ?_
         | refine Fork.dec (fun _ => ?_) (fun _ => ?_)
         | refine Fork.bne (fun _ => ?_) (fun _ => ?_)
         | refine Fork.beq (fun _ => ?_) (fun _ => ?_)
         | refine Fork.seq (fun _ => ?_) (fun _ => ?_)
         | refine Fork.sne (fun _ => ?_) (fun _ => ?_)
         | refine Fork.neg (fun _ => ?_) (fun _ => ?_)
         | refine Fork.mk (fun _ => ?_) (fun _ => ?_)
         | refine Round.mk ?_
         | refine NilQ.mk (fun b hb => ?_)
         | refine forceK_of ?_
         | refine forceBx_of ?_
         | refine unG_old ?_
         | refine unG_gv ?_
         | refine Lit.read rfl ?_
         | refine FinVal.keep ?_
         | refine FinAgg.keep ?_
         | refine Final.mk rfl rfl
         | refine Final.mk ?_ rfl
         | refine Final.mk ?_ ?_
         | refine FinalT.mk ?_ ?_)
    | refine AV.bool_congr ?_
    | refine AV.int_congr ?_
    | refine AV.str_congr ?_
    | refine AV.list_congr ?_
    | with_reducible rfl
    | refine fr1 ?_
    | refine fr2 ?_ ?_
  simp

/-! lists of facts: cells, boxes, marks -/
def mcells : List Fct → Nat → List AV
  | [], _ => []
  | f :: l, n => .str f.1 :: .bsl n f.2.length :: mcells l (n + 1)
def mbox (f : Fct) : ABox := .cells (.row 9 1) (f.2.map AV.str)
theorem gvLL_fct : ∀ (l : List Fct) (n : Nat), gvLL (l.map tFct.q) n = mcells l n
  | [], _ => rfl
  | f :: l, n => by
    have h1 : gvL (tFct.q f) n = [.str f.1, .bsl n f.2.length] := by
      show [AV.str f.1, gv (strT f.2) (n + 0)] = _
      rw [gv_strT]; rfl
    have h2 : nbL (tFct.q f) = 1 := nb_fct f
    rw [List.map_cons, gvLL, h1, h2, gvLL_fct l]; rfl
theorem gbLL_fct : ∀ (l : List Fct) (n : Nat), gbLL (l.map tFct.q) n = l.map mbox
  | [], _ => rfl
  | f :: l, n => by
    have h1 : gbL (tFct.q f) n = [mbox f] := (gbL_fct f n).trans (gb_strT f.2 n)
    have h2 : nbL (tFct.q f) = 1 := nb_fct f
    rw [List.map_cons, gbLL, h1, h2, gbLL_fct l]; rfl
theorem nbLL_fct : ∀ (l : List Fct), nbLL (l.map tFct.q) = l.length
  | [] => rfl
  | f :: l => by
    have h2 : nbL (tFct.q f) = 1 := nb_fct f
    rw [List.map_cons, nbLL, h2, nbLL_fct l, List.length_cons, Nat.add_comm]
def fctsT (l : List Fct) : Tr := .l 33 2 (l.map tFct.q)
theorem gb_fctsT (l : List Fct) (n : Nat) : gb (fctsT l) n = .cells (.row 33 2) (mcells l (n + 1)) :: l.map mbox := by rw [fctsT, gb, gvLL_fct, gbLL_fct]
theorem gv_fctsT (l : List Fct) (n : Nat) : gv (fctsT l) n = .bsl n l.length := by rw [fctsT, gv, List.length_map]
theorem nb_fctsT (l : List Fct) : nb (fctsT l) = l.length + 1 := by rw [fctsT, nb, nbLL_fct]
theorem length_mcells : ∀ (l : List Fct) (n : Nat), (mcells l n).length = l.length * 2
  | [], _ => rfl
  | f :: l, n => by simp only [mcells, List.length_cons, length_mcells l]; omega
theorem mcells_set : ∀ (l : List Fct) (n i : Nat) (x : Str), i < l.length → (mcells l n).set (i * 2) (.str x) = mcells (l.set i (x, (l.getD i default).2)) n
  | [], _, _, _, h => by simp at h
  | f :: l, n, 0, x, _ => by simp [mcells]
  | f :: l, n, i + 1, x, h => by
    have := mcells_set l (n + 1) i x (by simpa using h)
    rw [show (i + 1) * 2 = i * 2 + 1 + 1 by omega]
    simp only [mcells, List.set_cons_succ, this, List.getD_cons_succ]
theorem mcells_args : ∀ (l : List Fct) (n i : Nat) (ys : List Str), i < l.length → ys.length = (l.getD i default).2.length → mcells (l.set i ((l.getD i default).1, ys)) n = mcells l n
  | [], _, _, _, h, _ => by simp at h
  | f :: l, n, 0, ys, _, h => by simp [mcells] at h ⊢; exact h
  | f :: l, n, i + 1, ys, h, hy => by
    have := mcells_args l (n + 1) i ys (by simpa using h) (by simpa using hy)
    simp only [mcells, List.set_cons_succ, List.getD_cons_succ, this]
theorem mcells_drop : ∀ (l : List Fct) (n i : Nat), i < l.length → (mcells l n).drop (i * 2 + 1) = .bsl (n + i) (l.getD i default).2.length :: (mcells l n).drop (i * 2 + 2)
  | [], _, _, h => by simp at h
  | f :: l, n, 0, _ => by simp [mcells]
  | f :: l, n, i + 1, h => by
    have := mcells_drop l (n + 1) i (by simpa using h)
    rw [show (i + 1) * 2 + 1 = i * 2 + 1 + 1 + 1 by omega, show (i + 1) * 2 + 2 = i * 2 + 2 + 1 + 1 by omega]
    simp only [mcells, List.drop_succ_cons, this, List.getD_cons_succ]
    rw [Nat.add_right_comm, ← Nat.add_assoc]
def cntF : List Fct → Nat
  | [] => 0
  | f :: l => 1 + f.2.length + cntF l
def markFs : List Fct → Nat → List Fct
  | [], _ => []
  | f :: l, k => (markF k, markL f.2.length (k + 1)) :: markFs l (k + 1 + f.2.length)
theorem length_markFs : ∀ (l : List Fct) (k : Nat), (markFs l k).length = l.length
  | [], _ => rfl
  | f :: l, k => by simp [markFs, length_markFs l]
theorem cntF_take_succ {l : List Fct} {i : Nat} (hi : i < l.length) : cntF (l.take (i + 1)) = cntF (l.take i) + 1 + (l.getD i default).2.length := by
  induction l generalizing i with
  | nil => simp at hi
  | cons f l ih =>
    cases i with
    | zero => simp [cntF]
    | succ i => simp only [List.take_succ_cons, cntF, ih (show i < l.length by simpa using hi), List.getD_cons_succ]; omega
theorem cntF_take_le (l : List Fct) (i : Nat) : cntF (l.take i) ≤ cntF l := by
  induction l generalizing i with
  | nil => simp
  | cons f l ih => cases i with
    | zero => simp [cntF]
    | succ i => simp only [List.take_succ_cons, cntF]; have := ih i; omega
theorem length_le_cntF : ∀ l : List Fct, l.length ≤ cntF l
  | [] => Nat.le_refl _
  | f :: l => by have := length_le_cntF l; simp only [List.length_cons, cntF]; omega
theorem markFs_get : ∀ (l : List Fct) (k i : Nat), i < l.length → (markFs l k)[i]? = some (markF (k + cntF (l.take i)), markL (l.getD i default).2.length (k + cntF (l.take i) + 1))
  | [], _, _, h => by simp at h
  | f :: l, k, 0, _ => by simp [markFs, cntF]
  | f :: l, k, i + 1, h => by
    have := markFs_get l (k + 1 + f.2.length) i (by simpa using h)
    simp only [markFs, List.getElem?_cons_succ, this, List.take_succ_cons, cntF, List.getD_cons_succ]
    rw [show k + (1 + f.2.length + cntF (l.take i)) = k + 1 + f.2.length + cntF (l.take i) by omega]
/-- the first i facts marked -/
def mixF (l : List Fct) (k i : Nat) : List Fct := (markFs l k).take i ++ l.drop i
theorem length_mixF (l : List Fct) (k i : Nat) : (mixF l k i).length = l.length := by simp [mixF, length_markFs]; omega
theorem mixF_get {l : List Fct} {k i : Nat} (hi : i < l.length) : (mixF l k i).getD i default = l.getD i default := by
  have h1 : ((markFs l k).take i).length = i := by simp [length_markFs]; omega
  rw [List.getD, mixF, List.getElem?_append_right (by omega), h1, Nat.sub_self, List.getElem?_drop, Nat.add_zero]; rfl
theorem mixF_set {l : List Fct} {k i : Nat} (hi : i < l.length) : (mixF l k i).set i (markF (k + cntF (l.take i)), markL (l.getD i default).2.length (k + cntF (l.take i) + 1)) = mixF l k (i + 1) := by
  have h1 : ((markFs l k).take i).length = i := by simp [length_markFs]; omega
  have h2 : l.drop i = l[i] :: l.drop (i + 1) := List.drop_eq_getElem_cons hi
  have h3 : (markFs l k).take (i + 1) = (markFs l k).take i ++ [(markF (k + cntF (l.take i)), markL (l.getD i default).2.length (k + cntF (l.take i) + 1))] := by rw [List.take_add_one, markFs_get l k i hi]; rfl
  rw [mixF, mixF, h2, h3, List.set_append_right _ _ (by omega), h1, Nat.sub_self, List.set_cons_zero, List.append_assoc]; rfl
theorem mixF_zero (l : List Fct) (k : Nat) : mixF l k 0 = l := by simp [mixF]
theorem map_mbox_split {l : List Fct} {i : Nat} (hi : i < l.length) : l.map mbox = (l.take i).map mbox ++ mbox (l.getD i default) :: (l.drop (i + 1)).map mbox := by
  have h2 : l.drop i = l[i] :: l.drop (i + 1) := List.drop_eq_getElem_cons hi
  have h3 : l.getD i default = l[i] := by simp [List.getD, hi]
  rw [h3, ← List.map_cons, ← h2, ← List.map_append, List.take_append_drop]
theorem markFactS.turn (l : List Fct) (k : Nat) (hk : k + cntF l ≤ 1099511627775) :
    markFactS.Turn (gb (fctsT l) 0) [gv (fctsT l) 0, .val (.int .i64 k)] (.val (.int .i64 ((k + cntF l : Nat)))) (gb (fctsT (markFs l k)) 0) := by
  refine markFactS.ofT rfl rfl (by rw [length_gb, nb_fctsT, nb_fctsT, length_markFs]) ?_
  rw [gb_fctsT, gb_fctsT, gv_fctsT]
  repeat' first
    | contradiction
    | (conv => whnf
       first
         | refine Need.mk (fun h => h) ?_
         | refine Need.mk rfl ?_
         | refine Need.mk ⟨rfl, Nat.le_of_ble_eq_true rfl⟩ ?_
         | refine Need.mk (Nat.le_of_ble_eq_true rfl) ?_
         | refine Need.mk (by intros; (try simp only [length_strs] at *); (try simp only [length_rows] at *); (try simp only [length_oldLL, List.length_map] at *); (try simp only [Bool.and_eq_true, decide_eq_true_eq] at *); omega) ?_
         | refine Need.mk ?_ ?_
         | refine Ix.strs rfl (by intros; (try simp only [length_strs] at *); (try simp only [length_rows] at *); (try simp only [length_oldLL, List.length_map] at *); (try simp only [Bool.and_eq_true, decide_eq_true_eq] at *); omega) ?_
         | refine Ix.strs rfl ?_ ?_
         | refine Cut.strs rfl ?_ ?_
         | refine Ix.map (fun _ => rfl) (by intros; (try simp only [length_strs] at *); (try simp only [length_rows] at *); (try simp only [length_oldLL, List.length_map] at *); (try simp only [Bool.and_eq_true, decide_eq_true_eq] at *); omega) ?_
         | refine Ix.map (fun _ => rfl) ?_ ?_
         | refine Cut.map (fun _ => rfl) ?_ ?_
         | refine Fork.yes (by assumption) ?_
         | refine Fork.no (by assumption) ?_
         | refine Fork.decYes (by omega) ?_
         | refine Fork.decNo (by omega) ?_
         | refine Fork.dec (fun _ => ?_) (fun _ => ?_)
         | refine Fork.bne (fun _ => ?_) (fun _ => ?_)
         | refine Fork.beq (fun _ => ?_) (fun _ => ?_)
         | refine Fork.seq (fun _ => ?_) (fun _ => ?_)
         | refine Fork.sne (fun _ => ?_) (fun _ => ?_)
         | refine Fork.neg (fun _ => ?_) (fun _ => ?_)
         | refine Fork.mk (fun _ => ?_) (fun _ => ?_)
         | refine Round.mk ?_
         | refine NilQ.mk (fun b hb => ?_)
         | refine forceK_of ?_
         | refine forceBx_of ?_
         | refine unG_old ?_
         | refine unG_gv ?_
         | refine Lit.read rfl ?_
         | refine FinVal.keep ?_
         | refine FinAgg.keep ?_
         | refine Final.mk rfl rfl
         | refine Final.mk ?_ rfl
         | refine Final.mk ?_ ?_
         | refine FinalT.mk ?_ ?_)
    | refine AV.bool_congr ?_
    | refine AV.int_congr ?_
    | refine AV.str_congr ?_
    | refine AV.list_congr ?_
    | with_reducible rfl
    | refine fr1 ?_
    | refine fr2 ?_ ?_
  refine ALoop.mk Nat (fun i => ⟨[(0, .bsl 0 l.length), (1, .val (.int .i64 (k + cntF (l.take i) : Nat))), (5, .val (.int .i64 i))], .cells (.row 33 2) (mcells (mixF l k i) 1) :: (mixF l k i).map mbox, []⟩) (fun i => i ≤ l.length) (fun i => l.length - i) ⟨0, Nat.zero_le _, ?_⟩ (fun i hi => ?_)
  · refine ⟨?_, ?_, rfl, ?_, Or.inl ?_⟩
    · repeat' first
        | exact trivial
        | refine Weak.mk ?_ ?_ ?_ ?_ (Or.inl (Nat.le_of_ble_eq_true rfl))
        | refine Weak.mk ?_ ?_ ?_ ?_ (Or.inr ⟨(by repeat' first | exact trivial | exact Nat.le_of_ble_eq_true rfl | refine And.intro ?_ ?_), (by repeat' first | exact trivial | exact Nat.le_of_ble_eq_true rfl | refine And.intro ?_ ?_)⟩)
        | refine Weak.mk ?_ ?_ ?_ ?_ ?_
        | refine And.intro ?_ ?_
        | with_reducible rfl
        | exact Nat.le_of_ble_eq_true rfl
        | refine fr1 ?_
        | refine fr2 ?_ ?_
        | refine AV.int_congr ?_
        | refine AV.bool_congr ?_
        | refine AV.str_congr ?_
        | refine AV.list_congr ?_
        | refine AV.bsl_congr ?_ ?_
        | (apply rfl)
    · rw [mixF_zero]; show (_ :: List.map mbox l).take (_ :: List.map mbox l).length = _; rw [List.take_length]
    · rw [mixF_zero]; exact Nat.le_refl _
    · rw [mixF_zero]; exact Nat.le_refl _
  have hle := cntF_take_le l i
  have hln := length_le_cntF l
  repeat' first
    | contradiction
    | (conv => whnf
       first
         | refine Need.mk (fun h => h) ?_
         | refine Need.mk rfl ?_
         | refine Need.mk ⟨rfl, Nat.le_of_ble_eq_true rfl⟩ ?_
         | refine Need.mk (Nat.le_of_ble_eq_true rfl) ?_
         | refine Need.mk (by intros; (try simp only [length_strs] at *); (try simp only [length_rows] at *); (try simp only [length_oldLL, List.length_map] at *); (try simp only [Bool.and_eq_true, decide_eq_true_eq] at *); omega) ?_
         | refine Need.mk ?_ ?_
         | refine Ix.strs rfl (by intros; (try simp only [length_strs] at *); (try simp only [length_rows] at *); (try simp only [length_oldLL, List.length_map] at *); (try simp only [Bool.and_eq_true, decide_eq_true_eq] at *); omega) ?_
         | refine Ix.strs rfl ?_ ?_
         | refine Cut.strs rfl ?_ ?_
         | refine Ix.map (fun _ => rfl) (by intros; (try simp only [length_strs] at *); (try simp only [length_rows] at *); (try simp only [length_oldLL, List.length_map] at *); (try simp only [Bool.and_eq_true, decide_eq_true_eq] at *); omega) ?_
         | refine Ix.map (fun _ => rfl) ?_ ?_
         | refine Cut.map (fun _ => rfl) ?_ ?_
         | refine Fork.yes (by assumption) ?_
         | refine Fork.no (by assumption) ?_
         | refine Fork.decYes (by omega) ?_
         | refine Fork.decNo (by omega) ?_
         | refine Fork.dec (fun _ => ?_) (fun _ => ?_)
         | refine Fork.bne (fun _ => ?_) (fun _ => ?_)
         | refine Fork.beq (fun _ => ?_) (fun _ => ?_)
         | refine Fork.seq (fun _ => ?_) (fun _ => ?_)
         | refine Fork.sne (fun _ => ?_) (fun _ => ?_)
         | refine Fork.neg (fun _ => ?_) (fun _ => ?_)
         | refine Fork.mk (fun _ => ?_) (fun _ => ?_)
         | refine Round.mk ?_
         | refine NilQ.mk (fun b hb => ?_)
         | refine forceK_of ?_
         | refine forceBx_of ?_
         | refine unG_old ?_
         | refine unG_gv ?_
         | refine Lit.read rfl ?_
         | refine FinVal.keep ?_
         | refine FinAgg.keep ?_
         | refine Final.mk rfl rfl
         | refine Final.mk ?_ rfl
         | refine Final.mk ?_ ?_
         | refine FinalT.mk ?_ ?_
         | refine ACall.scal _ _ (markText.ret _ ?_) rfl (by repeat' first | exact SeesL.nil | refine SeesL.cons ?_ ?_ | exact SeesB.of0 (Sees0.val _) | exact SeesB.of0 (Sees0.str _) | exact SeesB.of0 (Sees0.olds _ _) | exact SeesB.of0 (Sees0.old _) | exact SeesB.of0 (Sees0.oldagg _) | exact SeesB.of0 Sees0.nil | exact Sees0.val _ | exact Sees0.str _ | exact Sees0.olds _ _ | exact Sees0.old _ | exact Sees0.oldagg _ | exact Sees0.nil | exact SeesB.of0 (Sees0.any _) | assumption | exact sees_gv _ _ _ (by assumption) (by first | assumption | exact BoxIn.last _ _ | exact BoxIn.more (BoxIn.last _ _) _) | refine SeesB.agg ?_ | refine Sees0.agg ?_ | exact SeesB.of0 (Sees0.clo SeesL.nil SeesL.nil) | exact Sees0.clo SeesL.nil SeesL.nil) ?_
         | refine AQCall.mk _ _ (fun hg => markText.ret _ ?_) rfl (fun _ => (by repeat' first | exact SeesL.nil | refine SeesL.cons ?_ ?_ | exact SeesB.of0 (Sees0.val _) | exact SeesB.of0 (Sees0.str _) | exact SeesB.of0 (Sees0.olds _ _) | exact SeesB.of0 (Sees0.old _) | exact SeesB.of0 (Sees0.oldagg _) | exact SeesB.of0 Sees0.nil | exact Sees0.val _ | exact Sees0.str _ | exact Sees0.olds _ _ | exact Sees0.old _ | exact Sees0.oldagg _ | exact Sees0.nil | exact SeesB.of0 (Sees0.any _) | assumption | exact sees_gv _ _ _ (by assumption) (by first | assumption | exact BoxIn.last _ _ | exact BoxIn.more (BoxIn.last _ _) _) | refine SeesB.agg ?_ | refine Sees0.agg ?_ | exact SeesB.of0 (Sees0.clo SeesL.nil SeesL.nil) | exact Sees0.clo SeesL.nil SeesL.nil)) ?_)
    | refine AV.bool_congr ?_
    | refine AV.int_congr ?_
    | refine AV.str_congr ?_
    | refine AV.list_congr ?_
    | with_reducible rfl
    | refine fr1 ?_
    | refine fr2 ?_ ?_
  · omega
  · rw [length_mcells, length_mixF]; exact ⟨rfl, by omega⟩
  · rename_i h1
    have hi' : i < (mixF l k i).length := by rw [length_mixF]; omega
    have hs := mcells_set (mixF l k i) 1 i (markF (k + cntF (l.take i))) hi'
    rw [mixF_get (by omega)] at hs
    rw [Int.toNat_natCast]
    conv => whnf
    have hg : ((mixF l k i).set i (markF (k + cntF (l.take i)), (l.getD i default).2)).getD i default = (markF (k + cntF (l.take i)), (l.getD i default).2) := by simp [List.getD, hi']
    have hd := mcells_drop ((mixF l k i).set i (markF (k + cntF (l.take i)), (l.getD i default).2)) 1 i (by simpa using hi')
    rw [hg, ← hs] at hd
    have hw : IntKind.i64.wrap (((k + cntF (l.take i) : Nat) : Int) + 1) = ((k + cntF (l.take i) + 1 : Nat) : Int) := by rw [wrap64 (by omega) (by omega)]; omega
    have hc := cntF_take_succ (l := l) (i := i) (by omega)
    have hle' := cntF_take_le l (i + 1)
    refine takeAV_one (n := 1) _ _ hd ?_
    conv => whnf
    refine ACall.turn rfl [gv (strT (l.getD i default).2) 0, .val (.int .i64 ((k + cntF (l.take i) + 1 : Nat)))] (strT (l.getD i default).2) (strT (markL (l.getD i default).2.length (k + cntF (l.take i) + 1))) _
      (.cells (.row 33 2) ((mcells (mixF l k i) 1).set (i * 2) (.str (markF (k + cntF (l.take i))))) :: ((mixF l k i).take i).map mbox) (((mixF l k i).drop (i + 1)).map mbox)
      (markStringS.turn (l.getD i default).2 (k + cntF (l.take i) + 1) (by omega)) rfl ?_ (by rw [nb_strT, nb_strT]) ?_ ?_
    · rw [gb_strT]
      have := map_mbox_split hi'
      rw [mixF_get (by omega)] at this
      show ABox.cells _ _ :: (mixF l k i).map mbox = _
      rw [this, List.append_assoc]; rfl
    · refine .cons (.inl ⟨?_, rfl⟩) (.cons (.inr (by rw [hw]; exact Sees0.val _)) .nil)
      rw [gv_strT]
      simp only [List.length_cons, List.length_map, List.length_take, length_mixF]
      congr 1; omega
    repeat' first
      | contradiction
      | (conv => whnf
         first
           | refine Need.mk (fun h => h) ?_
           | refine Need.mk rfl ?_
           | refine Need.mk ⟨rfl, Nat.le_of_ble_eq_true rfl⟩ ?_
           | refine Need.mk (Nat.le_of_ble_eq_true rfl) ?_
           | refine Need.mk (by intros; (try simp only [length_strs] at *); (try simp only [length_rows] at *); (try simp only [length_oldLL, List.length_map] at *); (try simp only [Bool.and_eq_true, decide_eq_true_eq] at *); omega) ?_
           | refine Need.mk ?_ ?_
           | refine Ix.strs rfl (by intros; (try simp only [length_strs] at *); (try simp only [length_rows] at *); (try simp only [length_oldLL, List.length_map] at *); (try simp only [Bool.and_eq_true, decide_eq_true_eq] at *); omega) ?_
           | refine Ix.strs rfl ?_ ?_
           | refine Cut.strs rfl ?_ ?_
           | refine Ix.map (fun _ => rfl) (by intros; (try simp only [length_strs] at *); (try simp only [length_rows] at *); (try simp only [length_oldLL, List.length_map] at *); (try simp only [Bool.and_eq_true, decide_eq_true_eq] at *); omega) ?_
           | refine Ix.map (fun _ => rfl) ?_ ?_
           | refine Cut.map (fun _ => rfl) ?_ ?_
           | refine Fork.yes (by assumption) ?_
           | refine Fork.no (by assumption) ?_
           | refine Fork.decYes (by omega) ?_
           | refine Fork.decNo (by omega) ?_
           | refine Fork.dec (fun _ => ?_) (fun _ => ?_)
           | refine Fork.bne (fun _ => ?_) (fun _ => ?_)
           | refine Fork.beq (fun _ => ?_) (fun _ => ?_)
           | refine Fork.seq (fun _ => ?_) (fun _ => ?_)
           | refine Fork.sne (fun _ => ?_) (fun _ => ?_)
           | refine Fork.neg (fun _ => ?_) (fun _ => ?_)
           | refine Fork.mk (fun _ => ?_) (fun _ => ?_)
           | refine Round.mk ?_
           | refine NilQ.mk (fun b hb => ?_)
           | refine forceK_of ?_
           | refine forceBx_of ?_
           | refine unG_old ?_
           | refine unG_gv ?_
           | refine Lit.read rfl ?_
           | refine FinVal.keep ?_
           | refine FinAgg.keep ?_
           | refine Final.mk rfl rfl
           | refine Final.mk ?_ rfl
           | refine Final.mk ?_ ?_
           | refine FinalT.mk ?_ ?_)
      | refine AV.bool_congr ?_
      | refine AV.int_congr ?_
      | refine AV.str_congr ?_
      | refine AV.list_congr ?_
      | with_reducible rfl
      | refine fr1 ?_
      | refine fr2 ?_ ?_
    refine ⟨i + 1, by omega, ⟨?_, ?_, rfl, ?_, Or.inl ?_⟩, by omega⟩
    · repeat' first
        | exact trivial
        | refine Weak.mk ?_ ?_ ?_ ?_ (Or.inl (Nat.le_of_ble_eq_true rfl))
        | refine Weak.mk ?_ ?_ ?_ ?_ (Or.inr ⟨(by repeat' first | exact trivial | exact Nat.le_of_ble_eq_true rfl | refine And.intro ?_ ?_), (by repeat' first | exact trivial | exact Nat.le_of_ble_eq_true rfl | refine And.intro ?_ ?_)⟩)
        | refine Weak.mk ?_ ?_ ?_ ?_ ?_
        | refine And.intro ?_ ?_
        | with_reducible rfl
        | exact Nat.le_of_ble_eq_true rfl
        | refine fr1 ?_
        | refine fr2 ?_ ?_
        | refine AV.int_congr ?_
        | refine AV.bool_congr ?_
        | refine AV.str_congr ?_
        | refine AV.list_congr ?_
        | refine AV.bsl_congr ?_ ?_
        | (apply rfl)
      · omega
      · rw [wrap64 (by omega) (by omega)]; rfl
    · have e1 : mcells (mixF l k (i + 1)) 1 = (mcells (mixF l k i) 1).set (i * 2) (.str (markF (k + cntF (l.take i)))) := by
        rw [hs, ← mixF_set (by omega)]
        have := mcells_args ((mixF l k i).set i (markF (k + cntF (l.take i)), (l.getD i default).2)) 1 i (markL (l.getD i default).2.length (k + cntF (l.take i) + 1)) (by simpa using hi') (by rw [hg]; simp)
        rw [hg, List.set_set] at this
        exact this
      have e2 : (mixF l k (i + 1)).map mbox = ((mixF l k i).take i).map mbox ++ gb (strT (markL (l.getD i default).2.length (k + cntF (l.take i) + 1))) 0 ++ ((mixF l k i).drop (i + 1)).map mbox := by
        rw [← mixF_set (by omega), gb_strT, List.set_eq_take_append_cons_drop, if_pos hi']
        simp [mbox]
      show List.take _ _ = _ :: _
      rw [e1, e2, gb_strT, gb_strT]
      rw [List.take_of_length_le (by simp)]
      simp
    · simp [length_mixF]
    · simp [length_gb, nb_strT, length_mixF]; omega
  · rename_i h1
    have : i = l.length := by omega
    rw [this, List.take_length]
  · rename_i h1
    have : i = l.length := by omega
    subst this
    have e : mixF l k l.length = markFs l k := by rw [mixF, List.take_of_length_le (by rw [length_markFs]; exact Nat.le_refl _), List.drop_length, List.append_nil]
    rw [e]
    show List.take (_ :: List.map mbox l).length _ = _
    rw [List.take_of_length_le (by simp [length_markFs])]
@[irreducible] def heldFs (l : List Fct) (k : Nat) : Int := if l = markFs l k then ((k + cntF l : Nat) : Int) else -1
theorem heldL_neg {l : List Str} {k : Nat} (h : heldL l k < 0) : l ≠ markL l.length k := fun e => by
  unfold heldL at h; rw [if_pos e] at h; omega
theorem heldL_pos {l : List Str} {k : Nat} (h : ¬ heldL l k < 0) : l = markL l.length k ∧ heldL l k = ((k + l.length : Nat) : Int) := by
  unfold heldL at h ⊢
  split at h
  · rename_i e; exact ⟨e, if_pos e⟩
  · omega
theorem markFs_lens : ∀ (l : List Fct) (k j : Nat), (markFs (markFs l j) k) = markFs l k
  | [], _, _ => rfl
  | f :: l, k, j => by simp [markFs, markFs_lens l]
theorem cntF_markFs : ∀ (l : List Fct) (k : Nat), cntF (markFs l k) = cntF l
  | [], _ => rfl
  | f :: l, k => by simp [markFs, cntF, cntF_markFs l]
theorem heldFs_mark (l : List Fct) (k : Nat) : heldFs (markFs l k) k = ((k + cntF l : Nat) : Int) := by
  unfold heldFs; rw [if_pos (markFs_lens l k k).symm, cntF_markFs]
theorem heldFactS.ret (l : List Fct) (k : Nat) (hk : k + cntF l ≤ 1099511627775) : heldFactS.Ret [.list none (facts l), .val (.int .i64 k)] (.val (.int .i64 (heldFs l k))) [] := by
  refine heldFactS.ofS rfl rfl ?_
  have hln := length_le_cntF l
  repeat' first
    | contradiction
    | (conv => whnf
       first
         | refine Need.mk (fun h => h) ?_
         | refine Need.mk rfl ?_
         | refine Need.mk ⟨rfl, Nat.le_of_ble_eq_true rfl⟩ ?_
         | refine Need.mk (Nat.le_of_ble_eq_true rfl) ?_
         | refine Need.mk (by intros; (try simp only [length_strs] at *); (try simp only [length_rows] at *); (try simp only [length_oldLL, List.length_map] at *); (try simp only [Bool.and_eq_true, decide_eq_true_eq] at *); omega) ?_
         | refine Need.mk ?_ ?_
         | refine Ix.strs rfl (by intros; (try simp only [length_strs] at *); (try simp only [length_rows] at *); (try simp only [length_oldLL, List.length_map] at *); (try simp only [Bool.and_eq_true, decide_eq_true_eq] at *); omega) ?_
         | refine Ix.strs rfl ?_ ?_
         | refine Cut.strs rfl ?_ ?_
         | refine Ix.map (fun _ => rfl) (by intros; (try simp only [length_strs] at *); (try simp only [length_rows] at *); (try simp only [length_oldLL, List.length_map] at *); (try simp only [Bool.and_eq_true, decide_eq_true_eq] at *); omega) ?_
         | refine Ix.map (fun _ => rfl) ?_ ?_
         | refine Cut.map (fun _ => rfl) ?_ ?_
         | refine Fork.yes (by assumption) ?_
         | refine Fork.no (by assumption) ?_
         | refine Fork.decYes (by omega) ?_
         | refine Fork.decNo (by omega) ?_
         | refine Fork.dec (fun _ => ?_) (fun _ => ?_)
         | refine Fork.bne (fun _ => ?_) (fun _ => ?_)
         | refine Fork.beq (fun _ => ?_) (fun _ => ?_)
         | refine Fork.seq (fun _ => ?_) (fun _ => ?_)
         | refine Fork.sne (fun _ => ?_) (fun _ => ?_)
         | refine Fork.neg (fun _ => ?_) (fun _ => ?_)
         | refine Fork.mk (fun _ => ?_) (fun _ => ?_)
         | refine Round.mk ?_
         | refine NilQ.mk (fun b hb => ?_)
         | refine forceK_of ?_
         | refine forceBx_of ?_
         | refine unG_old ?_
         | refine unG_gv ?_
         | refine Lit.read rfl ?_
         | refine FinVal.keep ?_
         | refine FinAgg.keep ?_
         | refine Final.mk rfl rfl
         | refine Final.mk ?_ rfl
         | refine Final.mk ?_ ?_
         | refine FinalT.mk ?_ ?_)
    | refine AV.bool_congr ?_
    | refine AV.int_congr ?_
    | refine AV.str_congr ?_
    | refine AV.list_congr ?_
    | with_reducible rfl
    | refine fr1 ?_
    | refine fr2 ?_ ?_
  refine ALoop.mk Nat (fun i => ⟨[(0, .list none (facts l)), (1, .val (.int .i64 (k + cntF (l.take i) : Nat))), (5, .val (.int .i64 i))], [], []⟩) (fun i => i ≤ l.length ∧ l.take i = (markFs l k).take i) (fun i => l.length - i) ⟨0, ⟨Nat.zero_le _, rfl⟩, ?_⟩ (fun i hi => ?_)
  · repeat' first
      | exact trivial
      | refine Weak.mk ?_ ?_ ?_ ?_ (Or.inl (Nat.le_of_ble_eq_true rfl))
      | refine Weak.mk ?_ ?_ ?_ ?_ (Or.inr ⟨(by repeat' first | exact trivial | exact Nat.le_of_ble_eq_true rfl | refine And.intro ?_ ?_), (by repeat' first | exact trivial | exact Nat.le_of_ble_eq_true rfl | refine And.intro ?_ ?_)⟩)
      | refine Weak.mk ?_ ?_ ?_ ?_ ?_
      | refine And.intro ?_ ?_
      | with_reducible rfl
      | exact Nat.le_of_ble_eq_true rfl
      | refine fr1 ?_
      | refine fr2 ?_ ?_
      | refine AV.int_congr ?_
      | refine AV.bool_congr ?_
      | refine AV.str_congr ?_
      | refine AV.list_congr ?_
      | refine AV.bsl_congr ?_ ?_
      | (apply rfl)
  obtain ⟨hi, ht⟩ := hi
  have hle := cntF_take_le l (i + 1)
  have hle0 := cntF_take_le l i
  have hc : i < l.length → _ := fun h => cntF_take_succ (l := l) (i := i) h
  have hm : i < l.length → _ := fun h => markFs_get l k i h
  have hw : IntKind.i64.wrap (((k + cntF (l.take i) : Nat) : Int) + 1) = ((k + cntF (l.take i) + 1 : Nat) : Int) := by rw [wrap64 (by omega) (by omega)]; omega
  repeat' first
    | contradiction
    | (conv => whnf
       first
         | refine Need.mk (fun h => h) ?_
         | refine Need.mk rfl ?_
         | refine Need.mk ⟨rfl, Nat.le_of_ble_eq_true rfl⟩ ?_
         | refine Need.mk (Nat.le_of_ble_eq_true rfl) ?_
         | refine Need.mk (by intros; (try simp only [length_strs] at *); (try simp only [length_rows] at *); (try simp only [length_oldLL, List.length_map] at *); (try simp only [Bool.and_eq_true, decide_eq_true_eq] at *); omega) ?_
         | refine Need.mk ?_ ?_
         | refine Ix.strs rfl (by intros; (try simp only [length_strs] at *); (try simp only [length_rows] at *); (try simp only [length_oldLL, List.length_map] at *); (try simp only [Bool.and_eq_true, decide_eq_true_eq] at *); omega) ?_
         | refine Ix.strs rfl ?_ ?_
         | refine Cut.strs rfl ?_ ?_
         | refine Ix.map (fun _ => rfl) (by intros; (try simp only [length_strs] at *); (try simp only [length_rows] at *); (try simp only [length_oldLL, List.length_map] at *); (try simp only [Bool.and_eq_true, decide_eq_true_eq] at *); omega) ?_
         | refine Ix.map (fun _ => rfl) ?_ ?_
         | refine Cut.map (fun _ => rfl) ?_ ?_
         | refine Fork.yes (by assumption) ?_
         | refine Fork.no (by assumption) ?_
         | refine Fork.decYes (by omega) ?_
         | refine Fork.decNo (by omega) ?_
         | refine Fork.dec (fun _ => ?_) (fun _ => ?_)
         | refine Fork.bne (fun _ => ?_) (fun _ => ?_)
         | refine Fork.beq (fun _ => ?_) (fun _ => ?_)
         | refine Fork.seq (fun _ => ?_) (fun _ => ?_)
         | refine Fork.sne (fun _ => ?_) (fun _ => ?_)
         | refine Fork.neg (fun _ => ?_) (fun _ => ?_)
         | refine Fork.mk (fun _ => ?_) (fun _ => ?_)
         | refine Round.mk ?_
         | refine NilQ.mk (fun b hb => ?_)
         | refine forceK_of ?_
         | refine forceBx_of ?_
         | refine unG_old ?_
         | refine unG_gv ?_
         | refine Lit.read rfl ?_
         | refine FinVal.keep ?_
         | refine FinAgg.keep ?_
         | refine Final.mk rfl rfl
         | refine Final.mk ?_ rfl
         | refine Final.mk ?_ ?_
         | refine FinalT.mk ?_ ?_
         | refine ACall.scal _ _ (markText.ret _ ?_) rfl (by repeat' first | exact SeesL.nil | refine SeesL.cons ?_ ?_ | exact SeesB.of0 (Sees0.val _) | exact SeesB.of0 (Sees0.str _) | exact SeesB.of0 (Sees0.olds _ _) | exact SeesB.of0 (Sees0.old _) | exact SeesB.of0 (Sees0.oldagg _) | exact SeesB.of0 Sees0.nil | exact Sees0.val _ | exact Sees0.str _ | exact Sees0.olds _ _ | exact Sees0.old _ | exact Sees0.oldagg _ | exact Sees0.nil | exact SeesB.of0 (Sees0.any _) | assumption | exact sees_gv _ _ _ (by assumption) (by first | assumption | exact BoxIn.last _ _ | exact BoxIn.more (BoxIn.last _ _) _) | refine SeesB.agg ?_ | refine Sees0.agg ?_ | exact SeesB.of0 (Sees0.clo SeesL.nil SeesL.nil) | exact Sees0.clo SeesL.nil SeesL.nil) ?_
         | refine AQCall.mk _ _ (fun hg => markText.ret _ ?_) rfl (fun _ => (by repeat' first | exact SeesL.nil | refine SeesL.cons ?_ ?_ | exact SeesB.of0 (Sees0.val _) | exact SeesB.of0 (Sees0.str _) | exact SeesB.of0 (Sees0.olds _ _) | exact SeesB.of0 (Sees0.old _) | exact SeesB.of0 (Sees0.oldagg _) | exact SeesB.of0 Sees0.nil | exact Sees0.val _ | exact Sees0.str _ | exact Sees0.olds _ _ | exact Sees0.old _ | exact Sees0.oldagg _ | exact Sees0.nil | exact SeesB.of0 (Sees0.any _) | assumption | exact sees_gv _ _ _ (by assumption) (by first | assumption | exact BoxIn.last _ _ | exact BoxIn.more (BoxIn.last _ _) _) | refine SeesB.agg ?_ | refine Sees0.agg ?_ | exact SeesB.of0 (Sees0.clo SeesL.nil SeesL.nil) | exact Sees0.clo SeesL.nil SeesL.nil)) ?_)
    | refine AV.bool_congr ?_
    | refine AV.int_congr ?_
    | refine AV.str_congr ?_
    | refine AV.list_congr ?_
    | with_reducible rfl
    | refine fr1 ?_
    | refine fr2 ?_ ?_
  all_goals try simp only [length_rows, length_strs, length_oldLL, List.length_map, Int.toNat_natCast] at *
  · omega
  · rename_i h1 h2
    have h3 : ¬ l = markFs l k := fun e => h1 (by
      have h := hm (by omega)
      rw [← e] at h
      rw [List.getD, h]; rfl)
    unfold heldFs; rw [if_neg h3]
  · rename_i h1 h2
    conv => whnf
    refine ACall.scal [.list none (strs (l.getD i default).2), .val (.int .i64 ((k + cntF (l.take i) + 1 : Nat)))] _ (heldStringS.ret _ _ (by omega)) rfl (.cons (SeesB.of0 (Sees0.olds _ _)) (.cons (SeesB.of0 (by rw [hw]; exact Sees0.val _)) .nil)) ?_
    repeat' first
      | contradiction
      | (conv => whnf
         first
           | refine Need.mk (fun h => h) ?_
           | refine Need.mk rfl ?_
           | refine Need.mk ⟨rfl, Nat.le_of_ble_eq_true rfl⟩ ?_
           | refine Need.mk (Nat.le_of_ble_eq_true rfl) ?_
           | refine Need.mk (by intros; (try simp only [length_strs] at *); (try simp only [length_rows] at *); (try simp only [length_oldLL, List.length_map] at *); (try simp only [Bool.and_eq_true, decide_eq_true_eq] at *); omega) ?_
           | refine Need.mk ?_ ?_
           | refine Ix.strs rfl (by intros; (try simp only [length_strs] at *); (try simp only [length_rows] at *); (try simp only [length_oldLL, List.length_map] at *); (try simp only [Bool.and_eq_true, decide_eq_true_eq] at *); omega) ?_
           | refine Ix.strs rfl ?_ ?_
           | refine Cut.strs rfl ?_ ?_
           | refine Ix.map (fun _ => rfl) (by intros; (try simp only [length_strs] at *); (try simp only [length_rows] at *); (try simp only [length_oldLL, List.length_map] at *); (try simp only [Bool.and_eq_true, decide_eq_true_eq] at *); omega) ?_
           | refine Ix.map (fun _ => rfl) ?_ ?_
           | refine Cut.map (fun _ => rfl) ?_ ?_
           | refine Fork.yes (by assumption) ?_
           | refine Fork.no (by assumption) ?_
           | refine Fork.decYes (by omega) ?_
           | refine Fork.decNo (by omega) ?_
           | refine Fork.dec (fun _ => ?_) (fun _ => ?_)
           | refine Fork.bne (fun _ => ?_) (fun _ => ?_)
           | refine Fork.beq (fun _ => ?_) (fun _ => ?_)
           | refine Fork.seq (fun _ => ?_) (fun _ => ?_)
           | refine Fork.sne (fun _ => ?_) (fun _ => ?_)
           | refine Fork.neg (fun _ => ?_) (fun _ => ?_)
           | refine Fork.mk (fun _ => ?_) (fun _ => ?_)
           | refine Round.mk ?_
           | refine NilQ.mk (fun b hb => ?_)
           | refine forceK_of ?_
           | refine forceBx_of ?_
           | refine unG_old ?_
           | refine unG_gv ?_
           | refine Lit.read rfl ?_
           | refine FinVal.keep ?_
           | refine FinAgg.keep ?_
           | refine Final.mk rfl rfl
           | refine Final.mk ?_ rfl
           | refine Final.mk ?_ ?_
           | refine FinalT.mk ?_ ?_)
      | refine AV.bool_congr ?_
      | refine AV.int_congr ?_
      | refine AV.str_congr ?_
      | refine AV.list_congr ?_
      | with_reducible rfl
      | refine fr1 ?_
      | refine fr2 ?_ ?_
    · rename_i h4
      have h3 : ¬ l = markFs l k := fun e => heldL_neg h4 (by
        have h := hm (by omega)
        rw [← e] at h
        exact congrArg (fun o : Option Fct => (o.getD default).2) h)
      unfold heldFs; rw [if_neg h3]
    · rename_i h4
      obtain ⟨h5, h6⟩ := heldL_pos h4
      have h7 := hc (by omega)
      refine ⟨i + 1, ⟨by omega, ?_⟩, ?_, by omega⟩
      · rw [take_succ' default (by omega), ht, List.take_add_one, hm (by omega)]
        congr 1
        show [_] = [_]
        congr 1
        exact Prod.ext h1 h5
      · repeat' first
          | exact trivial
          | refine Weak.mk ?_ ?_ ?_ ?_ (Or.inl (Nat.le_of_ble_eq_true rfl))
          | refine Weak.mk ?_ ?_ ?_ ?_ (Or.inr ⟨(by repeat' first | exact trivial | exact Nat.le_of_ble_eq_true rfl | refine And.intro ?_ ?_), (by repeat' first | exact trivial | exact Nat.le_of_ble_eq_true rfl | refine And.intro ?_ ?_)⟩)
          | refine Weak.mk ?_ ?_ ?_ ?_ ?_
          | refine And.intro ?_ ?_
          | with_reducible rfl
          | exact Nat.le_of_ble_eq_true rfl
          | refine fr1 ?_
          | refine fr2 ?_ ?_
          | refine AV.int_congr ?_
          | refine AV.bool_congr ?_
          | refine AV.str_congr ?_
          | refine AV.list_congr ?_
          | refine AV.bsl_congr ?_ ?_
          | (apply rfl)
        · rw [h6]; omega
        · rw [wrap64 (by omega) (by omega)]; rfl
  · have e : l = markFs l k := by
      have := ht
      rwa [List.take_of_length_le (by omega), List.take_of_length_le (by rw [length_markFs]; omega)] at this
    unfold heldFs; rw [if_pos e, List.take_of_length_le (by omega)]
end Go.Proofs.Ytamcaplpgmloiaa
