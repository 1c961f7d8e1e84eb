/-
  What stands below some laws' proofs, part 4: contracts of functions, by an evaluator.
-/
import Derived.Test.YtiloafmpienmhaaGreatZA3
namespace Go.Proofs.YtiloafmpienmhaaGreat
open Abs Go.RowKit
def factsF (l : List VStamp) : List Fct := l.map (·.1)
theorem factsF_len (l : List VStamp) : (factsF l).length = l.length := by rw [factsF, List.length_map]
theorem factsF_get {l : List VStamp} {i : Nat} (hi : i < l.length) : (factsF l)[i]? = some (l.getD i default).1 := by
  rw [factsF, List.getElem?_map]; simp [List.getD, hi]
theorem factsF_take {l : List VStamp} {i : Nat} (hi : i < l.length) : (factsF l).take (i + 1) = (factsF l).take i ++ [(l.getD i default).1] := by
  rw [List.take_add_one, factsF_get hi]; rfl
theorem factsF_sz : ∀ l : List VStamp, tFcts.size (factsF l) ≤ tStamps.size l
  | [] => Nat.le_refl _
  | s :: l => by
    have := factsF_sz l
    rw [tFcts_size, tStamps_sz] at *
    show (factsF l).length + 1 + (tFct.size s.1 + listSize tFct (factsF l)) ≤ l.length + 1 + ((tFct.size s.1 + 0) + listSize tStamp l)
    omega
theorem sFactsIn.ret (l : List VStamp) (h : tStamps.size l ≤ 1048576) : sFactsIn.Ret [.list none (rows tStamp l)] (.list (some 0) (tks tFct (factsF l) 1)) (accFr (factsF l)) := by
  refine sFactsIn.ir.of rfl ?_
  rw [tStamps_sz] at h
  have hfl := factsF_len l
  repeat' first
    | (conv => whnf
       first | refine Need.mk rfl ?_ | refine LitO.own rfl ?_)
  refine ALoop.mk Nat (fun i => ⟨[(0, .list none (rows tStamp l)), (3, .list (some 0) (tks tFct ((factsF l).take i) 1)), (4, .val (.int .i64 i))], [], accFr ((factsF l).take i)⟩) (fun i => i ≤ l.length) (fun i => l.length - i) ⟨0, Nat.zero_le _, ?_⟩ (fun i hi => ?_)
  · repeat' first
      | exact trivial | refine wl_ ?_ ?_ ?_ ?_ | refine And.intro ?_ ?_ | with_reducible rfl | exact ble_ | refine fr1 ?_ | refine AV.int_congr ?_ | refine AV.list_congr ?_ | (apply rfl)
  by_cases hi' : i < l.length
  rotate_left
  · repeat' first
      | (conv => whnf
         first | refine Need.mk rfl ?_ | refine Fork.decN ?_ | refine LitO.own rfl ?_ | refine Final.mk ?_ ?_)
      | refine AV.list_congr ?_
    · rw [List.take_of_length_le (by omega)]
    · rw [List.take_of_length_le (by omega)]
  have hst := tStamp_le hi'
  rw [tStamp_size] at hst
  have hc := sCopy.ret (l.getD i default).1 (by omega)
  have hlt : (tks tFct ((factsF l).take i) 1).length = i := by rw [length_tks, List.length_take, hfl]; omega
  repeat' first
    | (conv => whnf
       first | refine Need.mk rfl ?_ | refine nb_ ?_ | refine Need.mk ?_ ?_ | refine Ix.mapN (fun _ => rfl) ?_ | refine Fork.decY ?_ | refine Round.mk ?_ | refine Lit.read rfl ?_ | refine LitO.own rfl ?_ | refine ACall.mkFct _ _ (hc) (by repeat' first | exact SeesL.nil | refine SeesL.cons ?_ ?_ | exact SeesB.of0 (Sees0.val _) | exact SeesB.of0 (Sees0.str _) | exact SeesB.of0 (Sees0.olds _ _) | exact SeesB.of0 (Sees0.old _) | exact SeesB.of0 (Sees0.oldagg _) | exact SeesB.of0 Sees0.nil | exact Sees0.val _ | exact Sees0.str _ | exact Sees0.olds _ _ | exact Sees0.old _ | exact Sees0.oldagg _ | exact Sees0.nil | exact SeesB.of0 (Sees0.any _) | assumption | exact sees_gv _ _ _ (by assumption) (by first | assumption | exact BoxIn.last _ _ | exact BoxIn.more (BoxIn.last _ _) _) | refine SeesB.agg ?_ | refine Sees0.agg ?_ | exact SeesB.of0 (Sees0.clo SeesL.nil SeesL.nil) | exact Sees0.clo SeesL.nil SeesL.nil | exact SeesB.of0 (Sees0.list rfl) | exact Sees0.list rfl) ?_)
  · rw [length_tks]
  · intro c hc; rw [List.mem_singleton.1 hc]; exact tFct.htk _ _
  · rw [hlt, List.length_singleton]; omega
  · refine ⟨i + 1, by omega, ?_, by omega⟩
    repeat' first
      | exact trivial | refine wl_ ?_ ?_ ?_ ?_ | refine And.intro ?_ ?_ | with_reducible rfl | exact ble_ | refine AV.int_congr ?_ | refine AV.list_congr ?_ | (apply rfl)
    · rw [factsF_take hi', ← acc_snoc]
    · rw [wrap64 (by omega) (by omega)]; rfl
    · have h1 := accFr_snoc ((factsF l).take i) (l.getD i default).1
      rw [List.length_take, hfl, Nat.min_eq_left (by omega)] at h1
      rw [factsF_take hi', ← h1, hlt]; rfl
theorem sFactsIn.own (l : List VStamp) (h : tStamps.size l ≤ 1048576) : sFactsIn.Own [.list none (rows tStamp l)] (fctsT (factsF l)) := acc_own (sFactsIn.ret l h)
def zf9 : List AV := [.str [], .val (.slice none 0 0)]
theorem pFactsIn.ret (l : List VStamp) (h : tStamps.size l ≤ 1048576) : pFactsIn.Ret [.list none (rows tStamp l)] (.list (some (frs tFct (factsF l)).length) (tks tFct (factsF l) 0)) (frs tFct (factsF l) ++ [(96, 2, l.length)]) := by
  refine pFactsIn.ir.of rfl ?_
  rw [tStamps_sz] at h
  have hrl : ((rows tStamp l).length : Int) = l.length := by rw [length_rows]
  have hfl := factsF_len l
  repeat' first
    | (conv => whnf
       first | refine Need.fin ?_)
  refine ALoop.mk Nat (fun i => ⟨[(3, .bsl 0 l.length), (9, .list none (rows tStamp l)), (10, .val (.int .i64 l.length)), (11, .val (.int .i64 i))], [.cells (.row 96 2) (part zf9 (tks tFct (factsF l) 0) i)], frs tFct ((factsF l).take i)⟩) (fun i => i ≤ l.length) (fun i => l.length - i) ⟨0, Nat.zero_le _, ?_⟩ (fun i hi => ?_)
  · repeat' first
      | exact trivial | refine wl_ ?_ ?_ ?_ ?_ | refine And.intro ?_ ?_ | with_reducible rfl | exact ble_ | refine AV.int_congr ?_ | refine AV.list_congr ?_ | refine AV.bsl_congr ?_ ?_ | (apply rfl)
    · rw [hrl, Int.toNat_natCast]
    · exact hrl
    · simp only [List.nil_append, List.cons_append, List.length_cons, List.length_nil, List.take_succ_cons, List.take_zero]
      rw [part_made (xs := tks tFct (factsF l) 0) (sz := 2) rfl (by decide) (by rw [length_tks, hfl, hrl, Int.toNat_natCast])]; rfl
  by_cases hi' : i < l.length
  rotate_left
  · have hil : i = l.length := by omega
    subst hil
    have hall := part_all zf9 (tks tFct (factsF l) 0)
    rw [length_tks, hfl] at hall
    rw [hall, List.take_of_length_le (show (factsF l).length ≤ l.length by omega)]
    repeat' first
      | (conv => whnf
         first | refine Need.mk rfl ?_ | refine Fork.decN ?_ | refine LitO.own rfl ?_)
    conv => whnf
    refine FreezeD.flat (Freeze.mk (tks tFct (factsF l) 0) _ 96 2 rfl rfl (by rw [length_tks, hfl]) (tks_sz tFct _ 0) (tks_nr tFct _ 0) ?_)
    repeat' first
      | (conv => whnf
         first | refine Final.mk rfl rfl)
  have hst := tStamp_le hi'
  rw [tStamp_size] at hst
  have hc := pcopyFact.ret (l.getD i default).1 (by omega)
  have hget := tks_get tFct 0 (factsF_get hi')
  rw [Nat.zero_add] at hget
  repeat' first
    | (conv => whnf
       first | refine Need.mk rfl ?_ | refine Need.mk ⟨rfl, Nat.le_of_ble_eq_true rfl⟩ ?_ | refine nb_ ?_ | refine Need.finN ?_ | refine Need.mk ?_ ?_ | refine Ix.mapN (fun _ => rfl) ?_ | refine Fork.decY ?_ | refine Round.mk ?_ | refine LitO.own rfl ?_ | refine ACall.mkFct _ _ (hc) (by repeat' first | exact SeesL.nil | refine SeesL.cons ?_ ?_ | exact SeesB.of0 (Sees0.val _) | exact SeesB.of0 (Sees0.str _) | exact SeesB.of0 (Sees0.olds _ _) | exact SeesB.of0 (Sees0.old _) | exact SeesB.of0 (Sees0.oldagg _) | exact SeesB.of0 Sees0.nil | exact Sees0.val _ | exact Sees0.str _ | exact Sees0.olds _ _ | exact Sees0.old _ | exact Sees0.oldagg _ | exact Sees0.nil | exact SeesB.of0 (Sees0.any _) | assumption | exact sees_gv _ _ _ (by assumption) (by first | assumption | exact BoxIn.last _ _ | exact BoxIn.more (BoxIn.last _ _) _) | refine SeesB.agg ?_ | refine Sees0.agg ?_ | exact SeesB.of0 (Sees0.clo SeesL.nil SeesL.nil) | exact Sees0.clo SeesL.nil SeesL.nil | exact SeesB.of0 (Sees0.list rfl) | exact Sees0.list rfl) ?_)
  · rw [tFct.htk, part_len (sz := 2) rfl (tks_sz tFct _ 0) (by rw [length_tks, hfl]; omega), length_tks, hfl, Int.toNat_natCast]
    exact ⟨rfl, by omega⟩
  · refine ⟨i + 1, by omega, ?_, by omega⟩
    refine ⟨?_, ?_, ?_, Nat.le_of_ble_eq_true rfl, Or.inr ⟨?_, ?_⟩⟩
    · repeat' first
        | exact trivial | refine And.intro ?_ ?_ | with_reducible rfl | refine AV.int_congr ?_ | refine AV.list_congr ?_ | refine AV.bsl_congr ?_ ?_
      rw [wrap64 (by omega) (by omega)]; rfl
    · have := part_set (z := zf9) (sz := 2) rfl (tks_sz tFct _ 0) hget
      exact congrArg (fun c => [ABox.cells (.row 96 2) c]) this
    · show frs tFct ((factsF l).take i) ++ tFct.fr (l.getD ((i : Int)).toNat default).1 = frs tFct ((factsF l).take (i + 1))
      rw [factsF_take hi', frs_append, Int.toNat_natCast]
      simp [frs]
    · exact ⟨Nat.zero_lt_one, trivial, trivial, trivial, trivial⟩
    · exact ⟨part_inT tFct 1 zf9 (by decide) _ 0 _, trivial⟩
theorem pFactsIn.own (l : List VStamp) (h : tStamps.size l ≤ 1048576) : pFactsIn.Own [.list none (rows tStamp l)] (fctsT (factsF l)) := by
  have h1 := pFactsIn.ret l h
  refine Ty.ownV tFcts (a := factsF l) rfl rfl ?_
  rw [Nat.zero_add]
  rw [← factsF_len l] at h1
  exact h1
end Go.Proofs.YtiloafmpienmhaaGreat
namespace Go.Proofs.YtiloafmpienmhaaGreat
open Abs Go.RowKit
def timeOk (t : Int) : Bool := decide (1 ≤ t) && decide (t ≤ 200)
def timesOk : List VStamp → List Int → Bool
  | [], _ => true
  | s :: l, seen => timeOk s.2 && !seen.contains s.2 && timesOk l (s.2 :: seen)
def memF (l : List VStamp) : Bool := timesOk l [] && areF (factsF l)
def seenF (l : List VStamp) (i : Nat) : List Int := ((l.take i).map (·.2)).reverse
theorem seen_succ {l : List VStamp} {i : Nat} (hi : i < l.length) : seenF l (i + 1) = (l.getD i default).2 :: seenF l i := by
  rw [seenF, take_succ' default hi, List.map_append, List.reverse_append]; rfl
theorem timesOk_drop {l : List VStamp} {i : Nat} (hi : i < l.length) : timesOk (l.drop i) (seenF l i) = (timeOk (l.getD i default).2 && !(seenF l i).contains (l.getD i default).2 && timesOk (l.drop (i + 1)) (seenF l (i + 1))) := by
  rw [seen_succ hi, List.drop_eq_getElem_cons hi, timesOk]
  simp [List.getD, hi]
theorem seen_mem {l : List VStamp} {i : Nat} (hi : i ≤ l.length) (t : Int) : (seenF l i).contains t = true ↔ ∃ k, k < i ∧ (l.getD k default).2 = t := by
  rw [List.contains_iff_mem, seenF, List.mem_reverse, List.mem_map]
  constructor
  · rintro ⟨s, hs, rfl⟩
    obtain ⟨k, hk⟩ := List.getElem?_of_mem hs
    have hk2 := getElem?_lt hk
    rw [List.length_take] at hk2
    rw [List.getElem?_take, if_pos (by omega)] at hk
    exact ⟨k, by omega, by rw [List.getD_eq_getElem?_getD, hk]; rfl⟩
  · rintro ⟨k, hk, rfl⟩
    refine ⟨l.getD k default, ?_, rfl⟩
    have : (l.take i)[k]? = some (l.getD k default) := by rw [List.getElem?_take, if_pos hk]; simp [List.getD, show k < l.length by omega]
    exact List.mem_of_getElem? this
theorem sIsMemory.ret (l : List VStamp) (h : tStamps.size l ≤ 1048576) : sIsMemory.Ret [.list none (rows tStamp l)] (.val (.bool (memF l))) [] := by
  refine sIsMemory.ir.ofS rfl rfl ?_
  have hfi := sFactsIn.own l h
  have hfs := factsF_sz l
  have haf := sAreFacts.ret (factsF l) (by omega)
  have hokf : okT (fctsT (factsF l)) = true := ok_list tFct _ _
  rw [tStamps_sz] at h
  have hm : memF l = (timesOk (l.drop 0) (seenF l 0) && areF (factsF l)) := rfl
  skip
  refine ALoop.mk Nat (fun i => ⟨[(0, .list none (rows tStamp l)), (3, .val (.int .i64 i))], [], []⟩) (fun i => i ≤ l.length ∧ memF l = (timesOk (l.drop i) (seenF l i) && areF (factsF l))) (fun i => l.length - i) ⟨0, ⟨Nat.zero_le _, hm⟩, ?_⟩ (fun i hi => ?_)
  · repeat' first
      | exact trivial | refine wl_ ?_ ?_ ?_ ?_ | refine And.intro ?_ ?_ | with_reducible rfl | exact ble_ | refine AV.int_congr ?_ | refine AV.list_congr ?_ | (apply rfl)
  clear hm
  obtain ⟨hi1, hi2⟩ := hi
  by_cases hi' : i < l.length
  rotate_left
  · have hil : i = l.length := by omega
    rw [List.drop_eq_nil_of_le (by omega), timesOk, Bool.true_and] at hi2
    rw [hi2]
    repeat' first
      | (conv => whnf
         first | refine Need.mk rfl ?_ | refine Fork.decN ?_ | refine LitO.own rfl ?_ | refine FinVal.keep ?_ | refine Final.mk rfl rfl | refine ACall.oldA _ _ (hfi) ?_ | refine ACall.scalA _ _ (haf) rfl ?_)
  rw [timesOk_drop hi'] at hi2
  have hc := l1In.ret (l.getD i default).2 1 200
  by_cases ht : timeOk (l.getD i default).2 = true
  rotate_left
  · have ht' : timeOk (l.getD i default).2 = false := by simpa using ht
    rw [ht', Bool.false_and, Bool.false_and, Bool.false_and] at hi2
    rw [hi2]
    have ht2 : (decide (1 ≤ (l.getD i default).2) && decide ((l.getD i default).2 ≤ 200)) = false := ht'
    rw [ht2] at hc
    repeat' first
      | contradiction
      | (conv => whnf
         first | refine Need.mk rfl ?_ | refine Ix.mapN (fun _ => rfl) ?_ | refine Fork.decY ?_ | refine Fork.neg (fun _ => ?_) (fun _ => ?_) | refine LitO.own rfl ?_ | refine FinVal.keep ?_ | refine Final.mk rfl rfl | refine ACall.scalA _ _ (hc) rfl ?_)
  have ht2 : (decide (1 ≤ (l.getD i default).2) && decide ((l.getD i default).2 ≤ 200)) = true := ht
  rw [ht2] at hc
  rw [ht, Bool.true_and] at hi2
  have hs := seen_mem hi1 (l.getD i default).2
  repeat' first
    | contradiction
    | (conv => whnf
       first | refine Need.mk rfl ?_ | refine Ix.mapN (fun _ => rfl) ?_ | refine Fork.decY ?_ | refine Fork.neg (fun _ => ?_) (fun _ => ?_) | refine LitO.own rfl ?_ | refine ACall.scalA _ _ (hc) rfl ?_)
  refine ALoop.mk Nat (fun k => ⟨[(0, .list none (rows tStamp l)), (3, .val (.int .i64 i)), (4, .val (.int .i64 k))], [], []⟩) (fun k => k ≤ i ∧ ∀ j, j < k → (l.getD j default).2 ≠ (l.getD i default).2) (fun k => i - k) ⟨0, ⟨Nat.zero_le _, fun j hj => absurd hj (Nat.not_lt_zero j)⟩, ?_⟩ (fun k hk => ?_)
  · repeat' first
      | exact trivial | refine wl_ ?_ ?_ ?_ ?_ | refine And.intro ?_ ?_ | with_reducible rfl | exact ble_ | refine AV.int_congr ?_ | refine AV.list_congr ?_ | (apply rfl)
  obtain ⟨hk1, hk2⟩ := hk
  by_cases hk' : k < i
  rotate_left
  · have hki : k = i := by omega
    subst hki
    have hno : (seenF l k).contains (l.getD k default).2 = false := by
      cases hb : (seenF l k).contains (l.getD k default).2 with
      | false => rfl
      | true => obtain ⟨j, hj, he⟩ := hs.1 hb; exact absurd he (hk2 j hj)
    rw [hno, Bool.not_false, Bool.true_and] at hi2
    repeat' first
      | (conv => whnf
         first | refine Need.mk rfl ?_ | refine Fork.decN ?_ | refine Round.mk ?_ | refine LitO.own rfl ?_)
    refine ⟨k + 1, ⟨by omega, hi2⟩, ?_, by omega⟩
    repeat' first
      | exact trivial | refine wl_ ?_ ?_ ?_ ?_ | refine And.intro ?_ ?_ | with_reducible rfl | exact ble_ | refine AV.int_congr ?_ | refine AV.list_congr ?_ | (apply rfl)
    rw [wrap64 (by omega) (by omega)]; rfl
  by_cases he : (l.getD k default).2 = (l.getD i default).2
  · have hyes : (seenF l i).contains (l.getD i default).2 = true := hs.2 ⟨k, hk', he⟩
    rw [hyes, Bool.not_true, Bool.false_and, Bool.false_and] at hi2
    rw [hi2]
    repeat' first
      | (conv => whnf
         first | refine Need.mk rfl ?_ | refine Ix.mapN (fun _ => rfl) ?_ | refine Fork.decY ?_ | refine LitO.own rfl ?_ | refine FinVal.keep ?_ | refine Final.mk rfl rfl)
  repeat' first
    | (conv => whnf
       first | refine Need.mk rfl ?_ | refine Ix.mapN (fun _ => rfl) ?_ | refine Fork.decY ?_ | refine Fork.decN ?_ | refine Round.mk ?_ | refine LitO.own rfl ?_)
  refine ⟨k + 1, ⟨by omega, fun j hj => ?_⟩, ?_, by omega⟩
  · rcases Nat.lt_or_eq_of_le (Nat.le_of_lt_succ hj) with h5 | h5
    · exact hk2 j h5
    · subst h5; exact he
  · repeat' first
      | exact trivial | refine wl_ ?_ ?_ ?_ ?_ | refine And.intro ?_ ?_ | with_reducible rfl | exact ble_ | refine AV.int_congr ?_ | refine AV.list_congr ?_ | (apply rfl)
    rw [wrap64 (by omega) (by omega)]; rfl
theorem vgetB_map (g : VStamp → Int) : ∀ (l : List VStamp) (t : Int), boolOf (vget (l.map fun s => (MA.aInt .i64 (g s), MA.aBool true)) (.aInt .i64 t)) = (l.map g).contains t
  | [], t => rfl
  | s :: l, t => by
    rw [List.map_cons, vget, List.map_cons, List.contains_cons]
    by_cases h : g s = t
    · rw [if_pos (by rw [h])]; simp [h, boolOf]
    · rw [if_neg (fun e => by injection e with _ e; exact h e), vgetB_map g l t]
      simp [Ne.symm h]
theorem vput_new {m : List (MA × MA)} {k v : MA} (h : ∀ p ∈ m, p.1 ≠ k) : vput m k v = m ++ [(k, v)] := (vget_no h).2 v
def seenM (l : List VStamp) (i : Nat) : List (MA × MA) := (l.take i).map fun s => (MA.aInt .i64 s.2, MA.aBool true)
theorem seenM_get {l : List VStamp} {i : Nat} (t : Int) : boolOf (vget (seenM l i) (.aInt .i64 t)) = (seenF l i).contains t := by
  rw [seenM, vgetB_map (fun s => s.2), seenF]
  rw [Bool.eq_iff_iff, List.contains_iff_mem, List.contains_iff_mem, List.mem_reverse]
theorem seenM_put {l : List VStamp} {i : Nat} (hi : i < l.length) (h : (seenF l i).contains (l.getD i default).2 = false) : vput (seenM l i) (.aInt .i64 (l.getD i default).2) (.aBool true) = seenM l (i + 1) := by
  rw [vput_new, seenM, seenM, take_succ' default hi, List.map_append]; rfl
  intro p hp e
  rw [seenM, List.mem_map] at hp
  obtain ⟨s, hs, rfl⟩ := hp
  injection e with _ e
  have : (seenF l i).contains (l.getD i default).2 = true := by
    rw [List.contains_iff_mem, seenF, List.mem_reverse, List.mem_map]
    exact ⟨s, hs, e⟩
  rw [h] at this; cases this
theorem pIsMemory.ret (l : List VStamp) (h : tStamps.size l ≤ 1048576) : pIsMemory.Ret [.list none (rows tStamp l)] (.val (.bool (memF l))) [] := by
  refine pIsMemory.ir.ofS rfl rfl ?_
  have hfi := pFactsIn.own l h
  have hfs := factsF_sz l
  have haf := pAreFacts.ret (factsF l) (by omega)
  have hokf : okT (fctsT (factsF l)) = true := ok_list tFct _ _
  rw [tStamps_sz] at h
  have hrl : ((rows tStamp l).length : Int) = l.length := by rw [length_rows]
  have hm : memF l = (timesOk (l.drop 0) (seenF l 0) && areF (factsF l)) := rfl
  cases ha : areF (factsF l) with
  | false =>
    rw [ha] at haf hm
    rw [Bool.and_false] at hm
    rw [hm]
    repeat' first
      | contradiction
      | (conv => whnf
         first | refine Fork.neg (fun _ => ?_) (fun _ => ?_) | refine FinVal.keep ?_ | refine Final.mk rfl rfl | refine ACall.oldA _ _ (hfi) ?_ | refine ACall.scalA _ _ (haf) rfl ?_)
  | true =>
  rw [ha] at haf hm
  rw [Bool.and_true] at hm
  repeat' first
    | contradiction
    | (conv => whnf
       first | refine Fork.neg (fun _ => ?_) (fun _ => ?_) | refine ACall.oldA _ _ (hfi) ?_ | refine ACall.scalA _ _ (haf) rfl ?_)
  refine ALoop.mk Nat (fun i => ⟨[(3, .bmap 0), (11, .list none (rows tStamp l)), (12, .val (.int .i64 l.length)), (13, .val (.int .i64 i))], [.vmap (.kInt .i64) .kBool (seenM l i)], []⟩) (fun i => i ≤ l.length ∧ memF l = timesOk (l.drop i) (seenF l i)) (fun i => l.length - i) ⟨0, ⟨Nat.zero_le _, hm⟩, ?_⟩ (fun i hi => ?_)
  · repeat' first
      | exact trivial | refine wl_ ?_ ?_ ?_ ?_ | refine And.intro ?_ ?_ | with_reducible rfl | exact ble_ | refine AV.int_congr ?_ | refine AV.list_congr ?_ | (apply rfl)
    exact hrl
  clear hm
  obtain ⟨hi1, hi2⟩ := hi
  by_cases hi' : i < l.length
  rotate_left
  · have hil : i = l.length := by omega
    rw [List.drop_eq_nil_of_le (by omega), timesOk] at hi2
    rw [hi2]
    repeat' first
      | (conv => whnf
         first | refine Need.mk rfl ?_ | refine Fork.decN ?_ | refine LitO.own rfl ?_ | refine FinVal.keep ?_ | refine Final.mk rfl rfl)
  rw [timesOk_drop hi'] at hi2
  have hg := seenM_get (l := l) (i := i) (l.getD i default).2
  have ht : timeOk (l.getD i default).2 = !(decide ((l.getD i default).2 < 1) || decide (200 < (l.getD i default).2)) := by
    rw [timeOk, Bool.eq_iff_iff]; simp
  repeat' first
    | (conv => whnf
       first | refine Need.mk (fun h => h) ?_ | refine Need.mk rfl ?_ | refine Need.mk ⟨rfl, Nat.le_of_ble_eq_true rfl⟩ ?_ | refine nb_ ?_ | refine Ix.mapN (fun _ => rfl) ?_ | refine Fork.decY ?_ | refine Fork.mk (fun _ => ?_) (fun _ => ?_) | refine Round.mk ?_ | refine LitO.own rfl ?_ | refine FinVal.keep ?_ | refine Final.mk ?_ rfl)
    | refine AV.bool_congr ?_
  all_goals rename_i h1
  all_goals rw [Int.toNat_natCast, hg] at h1
  · rw [hi2, ht]
    revert h1
    cases (decide ((l.getD i default).2 < 1) || decide (200 < (l.getD i default).2)) <;> cases (seenF l i).contains (l.getD i default).2 <;> simp
  · rw [Bool.or_eq_false_iff] at h1
    rw [ht, h1.1, h1.2, Bool.not_false, Bool.true_and] at hi2
    refine ⟨i + 1, ⟨by omega, hi2⟩, ?_, by omega⟩
    repeat' first
      | exact trivial | refine wr_ ?_ ?_ ?_ ?_ | refine And.intro ?_ ?_ | with_reducible rfl | exact ble_ | refine AV.int_congr ?_ | refine AV.list_congr ?_ | (apply rfl)
    · rw [wrap64 (by omega) (by omega)]; rfl
    · show [ABox.vmap _ _ (vput (seenM l i) (.aInt .i64 (l.getD ((i : Int)).toNat default).2) (.aBool true))] = _
      rw [Int.toNat_natCast, seenM_put hi' h1.2]
end Go.Proofs.YtiloafmpienmhaaGreat
namespace Go.Proofs.YtiloafmpienmhaaGreat
open Abs
abbrev VMatch := Str × List Fct × List VPair
instance : DecidableEq VMatch := instDecidableEqProd
def tMatch : Ty VMatch := Ty.pair Ty.str (Ty.pair tFcts tPairs)
end Go.Proofs.YtiloafmpienmhaaGreat
namespace Go.Proofs.YtiloafmpienmhaaGreat
open Abs
def slEqualI.code : ACode := (q_ (r_ [s 4 mf_]) (q_ (q_ (r_ [v_ 6 0, s 7 (.len false (t 6)), v_ 8 1, s 9 (.len false (t 8)), s 10 (.bin .neq (t 7) (t 9))]) (.cond (t 10) (q_ (r_ [s 4 mf_]) .ret) .skip)) (q_ (q_ (r_ [v_ 11 0, s 12 (.len false (t 11)), s 13 (.mv (i_ 0))]) (.block 0 (.loop (q_ (r_ [s 14 (.bin .lss (t 13) (t 12))]) (q_ (.cond (t 14) .skip (.exit 0)) (q_ (.block 1 (q_ (r_ [v_ 15 13, v_ 5 15]) (q_ (.region true [v_ 16 0, v_ 17 5, s 18 (.iadr 1 (t 16) (t 17)), s 19 (l_ 18), v_ 20 1, v_ 21 5, s 22 (.iadr 1 (t 20) (t 21)), s 23 (l_ 22), s 24 (.bin .neq (t 19) (t 23))]) (.cond (t 24) (q_ (r_ [s 4 mf_]) .ret) .skip)))) (r_ [s 25 (.bin .add (t 13) (i_ 1)), v_ 13 25]))))))) (q_ (r_ [s 4 mt_]) .ret))))
theorem slEqualI.ir : IrAt Tryz.prog 179 slEqualI.code [0, 1, 4, 5, 12, 13, 14] [.tmp 4] Tryz.f179.ntmps := ir_ Tryz.func179
abbrev slEqualI.Ret (args : List AV) (r : AV) (frs : Fr) : Prop := Abs.Ret true Tryz.prog 179 args r frs
end Go.Proofs.YtiloafmpienmhaaGreat
namespace Go.Proofs.YtiloafmpienmhaaGreat
open Abs
theorem slEqualI.ret (l m : List Int) (hl : l.length ≤ 1099511627776) : slEqualI.Ret [.list none (rows Ty.int l), .list none (rows Ty.int m)] (.val (.bool (decide (l = m)))) [] := by
  refine slEqualI.ir.ofS rfl rfl ?_
  have e1 : (rows Ty.int l).length = l.length := length_rows _ _
  have e2 : (rows Ty.int m).length = m.length := length_rows _ _
  by_cases hlm : l.length = m.length
  rotate_left
  · have h3 : ¬ l = m := fun e => hlm (by rw [e])
    repeat' first
      | (conv => whnf
         first | refine Need.mk rfl ?_ | refine Fork.bne (fun _ => ?_) (fun _ => ?_) | refine LitO.own rfl ?_ | refine FinVal.keep ?_ | refine Final.mk ?_ rfl)
      | refine AV.bool_congr ?_
    · simp [h3]
    all_goals (exfalso; rename_i h9; omega)
  repeat' first
    | (conv => whnf
       first | refine Need.mk rfl ?_ | refine Fork.bne (fun _ => ?_) (fun _ => ?_) | refine LitO.own rfl ?_ | refine FinVal.keep ?_ | refine Final.mk ?_ rfl)
    | refine AV.bool_congr ?_
  · exfalso; rename_i h9; omega
  refine ALoop.mk Nat (fun i => ⟨[(0, .list none (rows Ty.int l)), (1, .list none (rows Ty.int m)), (12, .val (.int .i64 l.length)), (13, .val (.int .i64 i))], [], []⟩) (fun i => i ≤ l.length ∧ l.take i = m.take i) (fun i => l.length - i) ⟨0, ⟨Nat.zero_le _, rfl⟩, ?_⟩ (fun i hi => ?_)
  · repeat' first
      | exact trivial | refine wl_ ?_ ?_ ?_ ?_ | refine And.intro ?_ ?_ | with_reducible rfl | exact ble_ | refine AV.int_congr ?_ | refine AV.list_congr ?_ | (apply rfl)
    simp
  by_cases hi' : i < l.length
  rotate_left
  · have := hi.2
    rw [List.take_of_length_le (by omega), List.take_of_length_le (by omega)] at this
    repeat' first
      | (conv => whnf
         first | refine Need.mk rfl ?_ | refine Fork.decN ?_ | refine LitO.own rfl ?_ | refine FinVal.keep ?_ | refine Final.mk ?_ rfl)
      | refine AV.bool_congr ?_
    simp [this]
  repeat' first
    | (conv => whnf
       first | refine Need.mk rfl ?_ | refine Ix.mapN (fun _ => rfl) ?_ | refine Fork.decY ?_ | refine Fork.bne (fun _ => ?_) (fun _ => ?_) | refine Round.mk ?_ | refine LitO.own rfl ?_ | refine FinVal.keep ?_ | refine Final.mk ?_ rfl)
    | refine AV.bool_congr ?_
  · rename_i h1
    rw [Int.toNat_natCast] at h1
    have h3 : ¬ l = m := fun e => h1 (by rw [e])
    simp [h3]
  · rename_i h1
    rw [Int.toNat_natCast] at h1
    refine ⟨i + 1, ⟨by omega, ?_⟩, ?_, by omega⟩
    · rw [take_succ' default hi', take_succ' default (by omega), hi.2, h1]
    · repeat' first
        | exact trivial | refine wl_ ?_ ?_ ?_ ?_ | refine And.intro ?_ ?_ | with_reducible rfl | exact ble_ | refine AV.int_congr ?_ | refine AV.list_congr ?_ | (apply rfl)
      rw [wrap64 (by omega) (by omega)]; rfl
end Go.Proofs.YtiloafmpienmhaaGreat
namespace Go.Proofs.YtiloafmpienmhaaGreat
open Abs
abbrev VFiring := Str × List Int
instance : DecidableEq VFiring := instDecidableEqProd
def tFiring : Ty VFiring := Ty.pair Ty.str tInts
theorem tFiring_size (a : VFiring) : tFiring.size a = a.1.length + tInts.size a.2 := rfl
def tFirings : Ty (List VFiring) := Ty.list 120 tFiring
theorem tFirings_sz (l : List VFiring) : tFirings.size l = l.length + listSize tFiring l := rfl
theorem tFiring_get {l : List VFiring} {i : Nat} (hi : i < l.length) : l[i]? = some (l.getD i default) := by simp [List.getD, hi]
theorem tFiring_le {l : List VFiring} {i : Nat} (hi : i < l.length) : tFiring.size (l.getD i default) ≤ listSize tFiring l := listSize_mem tFiring (List.mem_of_getElem? (tFiring_get hi))
theorem Abs.ACall.mk_Firing {C : Con} {lend : Bool} {f : Nat} {vs : List AV} {b : List ABox} {fr : Fr} {k : AV → List ABox → Fr → Prop} (ys : List AV) (a : VFiring) (h : C.ret f ys (.agg (tFiring.tk a 0)) (tFiring.fr a)) (hv : SeesL Sees0 vs ys)
    (hk : k (.agg (tFiring.tk a fr.length)) b (fr ++ tFiring.fr a)) : ACall C lend f vs b fr k := ACall.mkA tFiring ys a h hv hk
theorem Abs.ACall.mk_FiringS {C : Con} {lend : Bool} {f : Nat} {vs : List AV} {b : List ABox} {fr : Fr} {k : AV → List ABox → Fr → Prop} (ys : List AV) (l : List VFiring) (h : C.ret f ys (.list (some (0 + (frs tFiring l).length)) (tks tFiring l 0)) (tFirings.fr l)) (hv : SeesL Sees0 vs ys)
    (hk : k (.list (some (fr.length + (frs tFiring l).length)) (tks tFiring l fr.length)) b (fr ++ tFirings.fr l)) : ACall C lend f vs b fr k :=
  ACall.mkV tFirings ys l (fun n => .list (some (n + (frs tFiring l).length)) (tks tFiring l n)) (fun _ => rfl) h hv hk
theorem toFiring.ret (a : VFiring) (h : tFiring.size a ≤ 1048576) : toFiring.Ret [.agg (oldL (tFiring.q a))] (.agg (tFiring.tk a 0)) (tFiring.fr a) := by
  refine toFiring.ir.of rfl ?_
  rw [tFiring_size] at h
  have hf1 := szI_eq a.2
  repeat' first
    | (conv => whnf
       first | refine Need.mk ⟨rfl, Nat.le_of_ble_eq_true rfl⟩ ?_ | refine nb_ ?_ | refine FinAgg.keep ?_ | refine Final.mk rfl rfl | refine ACall.mk_IntS _ _ (toIntS.ret _ ?_) (by repeat' first | exact SeesL.nil | refine SeesL.cons ?_ ?_ | exact SeesB.of0 (Sees0.val _) | exact SeesB.of0 (Sees0.str _) | exact SeesB.of0 (Sees0.olds _ _) | exact SeesB.of0 (Sees0.old _) | exact SeesB.of0 (Sees0.oldagg _) | exact SeesB.of0 Sees0.nil | exact Sees0.val _ | exact Sees0.str _ | exact Sees0.olds _ _ | exact Sees0.old _ | exact Sees0.oldagg _ | exact Sees0.nil | exact SeesB.of0 (Sees0.any _) | assumption | exact sees_gv _ _ _ (by assumption) (by first | assumption | exact BoxIn.last _ _ | exact BoxIn.more (BoxIn.last _ _) _) | refine SeesB.agg ?_ | refine Sees0.agg ?_ | exact SeesB.of0 (Sees0.clo SeesL.nil SeesL.nil) | exact Sees0.clo SeesL.nil SeesL.nil | exact SeesB.of0 (Sees0.list rfl) | exact Sees0.list rfl) ?_)
  all_goals first
    | omega
    | (refine congrArg AV.agg ?_
       repeat' first
         | refine cons_congr ?_ ?_
         | refine tok_congr ?_ ?_
         | refine congrArg (tks _ _) ?_
         | rfl
       all_goals (simp [Ty.pair, Ty.str, Ty.int, Ty.bool, Nat.add_assoc, Ty.plain, tInts]; done))
    | (simp [tFiring, Ty.pair, Ty.str, Ty.int, Ty.bool, List.append_assoc, Nat.add_assoc, Ty.plain, tInts]; done)
theorem szFiring.ret (f : VFiring) (a : Int) (h0 : 0 ≤ a) (ha : a ≤ 1048576) (hb : tFiring.bd f) :
    szFiring.Ret [.agg (oldL (tFiring.q f)), .val (.int .i64 a)] (.val (.int .i64 (left a (tFiring.size f)))) [] := by
  refine szFiring.ir.of rfl ?_
  have hz := tFiring_size f
  obtain ⟨hb0, hb1⟩ := hb
  have hb0 : f.1.length ≤ 9223372036854775807 := hb0
  obtain ⟨hbl1, hbe1⟩ := hb1
  have hy1 := szI_eq f.2
  by_cases c1 : a < (f.1.length : Int)
  · have e0 : IntKind.i64.wrap (a - (f.1.length : Int)) = a - (f.1.length : Int) := by rw [wrap64 (by omega) (by omega)]
    repeat' first
      | (conv => whnf
         first | refine Need.mk rfl ?_ | refine Fork.decYes (by omega) ?_ | refine LitO.own rfl ?_ | refine FinVal.keep ?_ | refine Final.mk ?_ rfl)
      | refine AV.int_congr ?_
    all_goals first
      | assumption
      | omega
      | exact left_eq (by omega)
  by_cases c2 : a < (f.1.length : Int) + (f.2.length : Int)
  · have e0 : IntKind.i64.wrap (a - (f.1.length : Int)) = a - (f.1.length : Int) := by rw [wrap64 (by omega) (by omega)]
    have e1 : left (IntKind.i64.wrap (a - (f.1.length : Int))) (f.2.length) = -1 := by rw [e0, left, if_pos (by omega)]
    repeat' first
      | (conv => whnf
         first | refine Need.mk rfl ?_ | refine Fork.decYes (by omega) ?_ | refine Fork.decNo (by omega) ?_ | refine LitO.own rfl ?_ | refine FinVal.keep ?_ | refine Final.mk ?_ rfl | refine ACall.scalA _ _ (szIntS.ret _ _ ?_ ?_ ?_) rfl ?_)
      | refine AV.int_congr ?_
    all_goals first
      | assumption
      | omega
      | exact left_eq (by omega)
  have e0 : IntKind.i64.wrap (a - (f.1.length : Int)) = a - (f.1.length : Int) := by rw [wrap64 (by omega) (by omega)]
  have e1 : left (IntKind.i64.wrap (a - (f.1.length : Int))) (f.2.length) = a - (f.1.length : Int) - (f.2.length : Int) := by rw [e0, left, if_neg (by omega)]
  repeat' first
    | (conv => whnf
       first | refine Need.mk rfl ?_ | refine Fork.decNo (by omega) ?_ | refine LitO.own rfl ?_ | refine FinVal.keep ?_ | refine Final.mk ?_ rfl | refine ACall.scalA _ _ (szIntS.ret _ _ ?_ ?_ ?_) rfl ?_)
    | refine AV.int_congr ?_
  all_goals first
    | assumption
    | omega
    | exact left_eq (by omega)
theorem eqFiring.big (f g : VFiring) (h : tFiring.size f ≤ 1099511627775) : eqFiring.Ret [.agg (oldL (tFiring.q f)), .agg (oldL (tFiring.q g))] (.val (.bool (decide (f = g)))) [] := by
  refine eqFiring.ir.of rfl ?_
  have hz := tFiring_size f
  repeat' first
    | (conv => whnf
       first | refine Fork.sne (fun _ => ?_) (fun _ => ?_) | refine Fork.neg (fun _ => ?_) (fun _ => ?_) | refine FinVal.keep ?_ | refine Final.mk ?_ rfl | refine ACall.scalA _ _ (eqIntS.big _ _ ?_) rfl ?_)
    | refine AV.bool_congr ?_
  all_goals first
    | omega
    | (simp only [tStrs_size, tInts_size] at *; omega)
    | (obtain ⟨x0, x1⟩ := f; obtain ⟨y0, y1⟩ := g; simp_all)
theorem toFiringS.ret (l : List VFiring) (h : tFirings.size l ≤ 1048576) : toFiringS.Ret [.list none (rows tFiring l)] (.list (some (0 + (frs tFiring l).length)) (tks tFiring l 0)) (tFirings.fr l) := by
  refine toFiringS.ir.of rfl ?_
  rw [tFirings_sz] at h
  repeat' first
    | (conv => whnf
       first | refine Need.fin ?_)
  refine ALoop.mk Nat (fun i => ⟨[(0, .list none (rows tFiring l)), (3, .bsl 0 l.length), (4, .val (.int .i64 i))], [.cells (.row 120 2) (part [.str [], .val (.slice none 0 0)] (tks tFiring l 0) i)], frs tFiring (l.take i)⟩) (fun i => i ≤ l.length) (fun i => l.length - i) ⟨0, Nat.zero_le _, ?_⟩ (fun i hi => ?_)
  · repeat' first
      | exact trivial | refine wl_ ?_ ?_ ?_ ?_ | refine And.intro ?_ ?_ | with_reducible rfl | exact ble_ | refine AV.int_congr ?_ | refine AV.list_congr ?_ | refine AV.bsl_congr ?_ ?_ | (apply rfl)
    · simp
    · simp only [List.nil_append, List.length_cons, List.length_nil, List.take_succ_cons, List.take_zero]
      rw [part_made (xs := tks tFiring l 0) (sz := 2) rfl (by decide) (by simp [length_tks])]; rfl
  repeat' first
    | (conv => whnf
       first | refine Need.mk rfl ?_ | refine nb_ ?_ | refine Need.fin ?_ | refine Need.mk ?_ ?_ | refine Ix.mapF (fun _ => rfl) ?_ | refine Fork.dec (fun _ => ?_) (fun _ => ?_) | refine Round.mk ?_ | refine LitO.own rfl ?_ | refine ACall.mk_Firing _ _ (toFiring.ret _ ?_) (by repeat' first | exact SeesL.nil | refine SeesL.cons ?_ ?_ | exact SeesB.of0 (Sees0.val _) | exact SeesB.of0 (Sees0.str _) | exact SeesB.of0 (Sees0.olds _ _) | exact SeesB.of0 (Sees0.old _) | exact SeesB.of0 (Sees0.oldagg _) | exact SeesB.of0 Sees0.nil | exact Sees0.val _ | exact Sees0.str _ | exact Sees0.olds _ _ | exact Sees0.old _ | exact Sees0.oldagg _ | exact Sees0.nil | exact SeesB.of0 (Sees0.any _) | assumption | exact sees_gv _ _ _ (by assumption) (by first | assumption | exact BoxIn.last _ _ | exact BoxIn.more (BoxIn.last _ _) _) | refine SeesB.agg ?_ | refine Sees0.agg ?_ | exact SeesB.of0 (Sees0.clo SeesL.nil SeesL.nil) | exact Sees0.clo SeesL.nil SeesL.nil | exact SeesB.of0 (Sees0.list rfl) | exact Sees0.list rfl) ?_)
  · rename_i h1
    rw [length_rows] at h1
    have := listSize_mem tFiring (List.mem_of_getElem? (tFiring_get (l := l) (i := i) (by omega)))
    rw [Int.toNat_natCast]; omega
  · rename_i h1
    rw [length_rows] at h1
    rw [part_len (sz := 2) rfl (tks_sz tFiring l 0) (by rw [length_tks]; exact hi), Int.toNat_natCast, length_tks]
    exact ⟨rfl, by omega⟩
  · rename_i h1
    rw [length_rows] at h1
    refine ⟨i + 1, by omega, ?_, by omega⟩
    repeat' first
      | exact trivial | refine wl_ ?_ ?_ ?_ ?_ | refine And.intro ?_ ?_ | with_reducible rfl | exact ble_ | refine AV.int_congr ?_ | refine AV.list_congr ?_ | refine AV.bsl_congr ?_ ?_
    · rw [wrap64 (by omega) (by omega)]; rfl
    · have := part_set (z := [.str [], .val (.slice none 0 0)]) (sz := 2) rfl (tks_sz tFiring l 0) (tks_get tFiring 0 (tFiring_get (l := l) (i := i) (by omega)))
      rw [Nat.zero_add] at this
      simp only [List.set_cons_zero, List.take_succ_cons, List.take_zero, List.length_cons, List.length_nil, Int.toNat_natCast, this]
    · show frs tFiring (l.take i) ++ tFiring.fr (l.getD (i : Int).toNat default) = frs tFiring (l.take (i + 1))
      rw [Int.toNat_natCast, take_succ' default (by omega), frs_append]; simp [frs]
  · rename_i h1
    rw [length_rows] at h1
    conv => whnf
    have : i = l.length := by omega
    subst this
    have hall := part_all [.str [], .val (.slice none 0 0)] (tks tFiring l 0)
    rw [length_tks] at hall
    refine FreezeD.flat (Freeze.mk (tks tFiring l 0) _ 120 2 rfl hall (length_tks _ _ _) (tks_sz tFiring l 0) (fun c hc => ?_) ?_)
    · rw [hall] at hc; exact tks_nr tFiring l 0 c hc
    · refine Final.mk ?_ ?_
      · rw [List.take_length, Nat.zero_add]
      · rw [List.take_length]; rfl
theorem szFiringS.ret (l : List VFiring) (a : Int) (h0 : 0 ≤ a) (ha : a ≤ 1048576) (hb : tFirings.bd l) :
    szFiringS.Ret [.list none (rows tFiring l), .val (.int .i64 a)] (.val (.int .i64 (left a (tFirings.size l)))) [] := by
  refine szFiringS.ir.of rfl ?_
  obtain ⟨hl, hb⟩ := hb
  have hw : IntKind.i64.wrap (a - ((rows tFiring l).length : Int)) = a - l.length := by rw [length_rows]; exact wrap64 (by omega) (by omega)
  have hz := tFirings_sz l
  repeat' first
    | (conv => whnf
       first | refine Need.mk rfl ?_ | refine Fork.dec (fun _ => ?_) (fun _ => ?_) | refine LitO.own rfl ?_ | refine FinVal.keep ?_ | refine Final.mk ?_ rfl)
    | refine AV.int_congr ?_
  · rename_i h
    rw [hw] at h
    rw [left, if_pos (by omega)]
  rename_i h
  rw [hw] at h
  skip
  refine ALoop.mk Nat (fun i => ⟨[(0, .list none (rows tFiring l)), (1, .val (.int .i64 (a - l.length - listSize tFiring (l.take i)))), (5, .val (.int .i64 i))], [], []⟩) (fun i => i ≤ l.length ∧ (0 : Int) ≤ a - l.length - listSize tFiring (l.take i)) (fun i => l.length - i) ⟨0, ⟨Nat.zero_le _, by simp [listSize]; omega⟩, ?_⟩ (fun i hi => ?_)
  · repeat' first
      | exact trivial | refine wl_ ?_ ?_ ?_ ?_ | refine And.intro ?_ ?_ | with_reducible rfl | exact ble_ | refine AV.int_congr ?_ | refine AV.list_congr ?_ | (apply rfl)
    rw [hw]; simp [listSize]
  obtain ⟨hp1, hp2⟩ := hi
  have hle := listSize_take_le tFiring l (i + 1)
  have hbi : i < l.length → tFiring.bd (l.getD i default) := fun h => hb _ (List.mem_of_getElem? (tFiring_get h))
  have hsz : i < l.length → listSize tFiring (l.take (i + 1)) = listSize tFiring (l.take i) + tFiring.size (l.getD i default) := fun h => listSize_take_succ tFiring (tFiring_get h)
  repeat' first
    | (conv => whnf
       first | refine Need.mk rfl ?_ | refine nb_ ?_ | refine Ix.mapF (fun _ => rfl) ?_ | refine Fork.dec (fun _ => ?_) (fun _ => ?_) | refine Round.mk ?_ | refine LitO.own rfl ?_ | refine FinVal.keep ?_ | refine Final.mk ?_ rfl | refine ACall.scalA _ _ (szFiring.ret _ _ ?_ ?_ ?_) rfl ?_)
    | refine AV.int_congr ?_
  · exact hp2
  · omega
  · rename_i h1
    rw [length_rows] at h1
    rw [Int.toNat_natCast]; exact hbi (by omega)
  · rename_i h1 h2
    rw [length_rows] at h1
    rw [Int.toNat_natCast] at h2
    have := hsz (by omega)
    unfold left at h2 ⊢
    split at h2
    · rw [if_pos (by omega)]
    · omega
  · rename_i h1 h2
    rw [length_rows] at h1
    rw [Int.toNat_natCast] at h2
    have := hsz (by omega)
    have e : left (a - ↑l.length - ↑(listSize tFiring (l.take i))) (tFiring.size (l.getD i default)) = a - ↑l.length - ↑(listSize tFiring (l.take (i + 1))) := by
      unfold left at h2 ⊢
      split at h2
      · omega
      · rw [if_neg ‹_›]; omega
    refine ⟨i + 1, ⟨by omega, ?_⟩, ?_, by omega⟩
    · rw [← e]; omega
    · repeat' first
        | exact trivial | refine wl_ ?_ ?_ ?_ ?_ | refine And.intro ?_ ?_ | with_reducible rfl | exact ble_ | refine AV.int_congr ?_ | refine AV.list_congr ?_ | (apply rfl)
      · rw [Int.toNat_natCast]; exact e
      · rw [wrap64 (by omega) (by omega)]; rfl
  · rename_i h1
    rw [length_rows] at h1
    rw [List.take_of_length_le (by omega)] at hp2 ⊢
    rw [left, if_neg (by omega)]; omega
theorem eqFiringS.big (l m : List VFiring) (h : tFirings.size l ≤ 1099511627775) : eqFiringS.Ret [.list none (rows tFiring l), .list none (rows tFiring m)] (.val (.bool (decide (l = m)))) [] := by
  refine eqFiringS.ir.of rfl ?_
  rw [tFirings_sz] at h
  repeat' first
    | (conv => whnf
       first | refine Need.mk rfl ?_ | refine Fork.bne (fun _ => ?_) (fun _ => ?_) | refine LitO.own rfl ?_ | refine FinVal.keep ?_ | refine Final.mk ?_ rfl)
    | refine AV.bool_congr ?_
  · rename_i h
    rw [length_rows, length_rows] at h
    have h3 : ¬ l = m := fun e => h (by rw [e])
    simp [h3]
  rename_i h
  rw [length_rows, length_rows] at h
  have h : l.length = m.length := by omega
  skip
  refine ALoop.mk Nat (fun i => ⟨[(0, .list none (rows tFiring l)), (1, .list none (rows tFiring m)), (5, .val (.int .i64 i))], [], []⟩) (fun i => i ≤ l.length ∧ l.take i = m.take i) (fun i => l.length - i) ⟨0, ⟨Nat.zero_le _, rfl⟩, ?_⟩ (fun i hi => ?_)
  · repeat' first
      | exact trivial | refine wl_ ?_ ?_ ?_ ?_ | refine And.intro ?_ ?_ | with_reducible rfl | exact ble_ | refine AV.int_congr ?_ | refine AV.list_congr ?_ | (apply rfl)
  repeat' first
    | (conv => whnf
       first | refine Need.mk rfl ?_ | refine nb_ ?_ | refine Ix.mapF (fun _ => rfl) ?_ | refine Fork.dec (fun _ => ?_) (fun _ => ?_) | refine Fork.neg (fun _ => ?_) (fun _ => ?_) | refine Round.mk ?_ | refine LitO.own rfl ?_ | refine FinVal.keep ?_ | refine Final.mk ?_ rfl | refine AQCall.mkA _ _ (fun hg => eqFiring.big _ _ ?_) rfl ?_)
    | refine AV.bool_congr ?_
  · rename_i h1
    rw [length_rows] at h1
    have := listSize_mem tFiring (List.mem_of_getElem? (tFiring_get (l := l) (i := i) (by omega)))
    rw [Int.toNat_natCast]; omega
  · rename_i h1 h2
    have h3 : ¬ l = m := fun e => of_decide_eq_false h2 (by rw [e])
    simp [h3]
  · rename_i h1 h2
    rw [length_rows] at h1
    rw [Int.toNat_natCast] at h2
    refine ⟨i + 1, ⟨by omega, ?_⟩, ?_, by omega⟩
    · rw [take_succ' default (by omega), take_succ' (l := m) default (by omega), hi.2, of_decide_eq_true h2]
    · repeat' first
        | exact trivial | refine wl_ ?_ ?_ ?_ ?_ | refine And.intro ?_ ?_ | with_reducible rfl | exact ble_ | refine AV.int_congr ?_ | refine AV.list_congr ?_ | (apply rfl)
      rw [wrap64 (by omega) (by omega)]; rfl
  · rename_i h1
    rw [length_rows] at h1
    have h2 := hi.2
    rw [List.take_of_length_le (by omega), List.take_of_length_le (by omega)] at h2
    simp [h2]
end Go.Proofs.YtiloafmpienmhaaGreat
namespace Go.Proofs.YtiloafmpienmhaaGreat
open Abs
abbrev VChoice := VMatch × Int × List Int × Int × Int
instance : DecidableEq VChoice := instDecidableEqProd
def tChoice : Ty VChoice := Ty.pair tMatch (Ty.pair Ty.int (Ty.pair tInts (Ty.pair Ty.int Ty.int)))
end Go.Proofs.YtiloafmpienmhaaGreat
namespace Go.Proofs.YtiloafmpienmhaaGreat
open Abs Go.RowKit
theorem s9SameInts.ret (l m : List Int) (hl : l.length ≤ 1099511627776) : s9SameInts.Ret [.list none (rows Ty.int l), .list none (rows Ty.int m)] (.val (.bool (decide (l = m)))) [] := by
  refine s9SameInts.ir.ofS rfl rfl ?_
  have e1 : (rows Ty.int l).length = l.length := length_rows _ _
  have e2 : (rows Ty.int m).length = m.length := length_rows _ _
  by_cases hlm : l.length = m.length
  rotate_left
  · have h3 : ¬ l = m := fun e => hlm (by rw [e])
    repeat' first
      | (conv => whnf
         first | refine Need.mk rfl ?_ | refine Fork.bne (fun _ => ?_) (fun _ => ?_) | refine LitO.own rfl ?_ | refine FinVal.keep ?_ | refine Final.mk ?_ rfl)
      | refine AV.bool_congr ?_
    · simp [h3]
    all_goals (exfalso; rename_i h9; omega)
  repeat' first
    | (conv => whnf
       first | refine Need.mk rfl ?_ | refine Fork.bne (fun _ => ?_) (fun _ => ?_) | refine LitO.own rfl ?_ | refine FinVal.keep ?_ | refine Final.mk ?_ rfl)
    | refine AV.bool_congr ?_
  · exfalso; rename_i h9; omega
  refine ALoop.mk Nat (fun i => ⟨[(0, .list none (rows Ty.int l)), (1, .list none (rows Ty.int m)), (5, .val (.int .i64 i))], [], []⟩) (fun i => i ≤ l.length ∧ l.take i = m.take i) (fun i => l.length - i) ⟨0, ⟨Nat.zero_le _, rfl⟩, ?_⟩ (fun i hi => ?_)
  · repeat' first
      | exact trivial | refine wl_ ?_ ?_ ?_ ?_ | refine And.intro ?_ ?_ | with_reducible rfl | exact ble_ | refine AV.int_congr ?_ | refine AV.list_congr ?_ | (apply rfl)
  by_cases hi' : i < l.length
  rotate_left
  · have := hi.2
    rw [List.take_of_length_le (by omega), List.take_of_length_le (by omega)] at this
    repeat' first
      | (conv => whnf
         first | refine Need.mk rfl ?_ | refine Fork.decN ?_ | refine LitO.own rfl ?_ | refine FinVal.keep ?_ | refine Final.mk ?_ rfl)
      | refine AV.bool_congr ?_
    simp [this]
  repeat' first
    | (conv => whnf
       first | refine Need.mk rfl ?_ | refine Ix.mapN (fun _ => rfl) ?_ | refine Fork.decY ?_ | refine Fork.bne (fun _ => ?_) (fun _ => ?_) | refine Round.mk ?_ | refine LitO.own rfl ?_ | refine FinVal.keep ?_ | refine Final.mk ?_ rfl)
    | refine AV.bool_congr ?_
  · rename_i h1
    rw [Int.toNat_natCast] at h1
    have h3 : ¬ l = m := fun e => h1 (by rw [e])
    simp [h3]
  · rename_i h1
    rw [Int.toNat_natCast] at h1
    refine ⟨i + 1, ⟨by omega, ?_⟩, ?_, by omega⟩
    · rw [take_succ' default hi', take_succ' default (by omega), hi.2, h1]
    · repeat' first
        | exact trivial | refine wl_ ?_ ?_ ?_ ?_ | refine And.intro ?_ ?_ | with_reducible rfl | exact ble_ | refine AV.int_congr ?_ | refine AV.list_congr ?_ | (apply rfl)
      rw [wrap64 (by omega) (by omega)]; rfl
def firedF (l : List VFiring) (x : VChoice) : Bool := l.any fun f => f.1 == x.1.1 && decide (f.2 = x.2.2.1)
theorem firedF_drop {l : List VFiring} {x : VChoice} {i : Nat} (hi : i < l.length) : firedF (l.drop i) x = ((l.getD i default).1 == x.1.1 && decide ((l.getD i default).2 = x.2.2.1) || firedF (l.drop (i + 1)) x) := by
  rw [firedF, List.drop_eq_getElem_cons hi, List.any_cons]
  simp [List.getD, hi, firedF]
theorem sHasFired.ret (l : List VFiring) (x : VChoice) (h : tFirings.size l ≤ 1048576) : sHasFired.Ret [.list none (rows tFiring l), .agg (oldL (tChoice.q x))] (.val (.bool (firedF l x))) [] := by
  refine sHasFired.ir.ofS rfl rfl ?_
  rw [tFirings_sz] at h
  skip
  refine ALoop.mk Nat (fun i => ⟨[(0, .list none (rows tFiring l)), (3, .bptr 0 0), (5, .val (.int .i64 i))], [.cells .var (oldL (tChoice.q x))], []⟩) (fun i => i ≤ l.length ∧ firedF (l.drop i) x = firedF l x) (fun i => l.length - i) ⟨0, ⟨Nat.zero_le _, rfl⟩, ?_⟩ (fun i hi => ?_)
  · repeat' first
      | exact trivial | refine wl_ ?_ ?_ ?_ ?_ | refine And.intro ?_ ?_ | with_reducible rfl | exact ble_ | refine AV.int_congr ?_ | refine AV.list_congr ?_ | (apply rfl)
  by_cases hi' : i < l.length
  rotate_left
  · have := hi.2
    rw [List.drop_eq_nil_of_le (by omega)] at this
    repeat' first
      | (conv => whnf
         first | refine Need.mk rfl ?_ | refine Fork.decN ?_ | refine LitO.own rfl ?_ | refine FinVal.keep ?_ | refine Final.mk ?_ rfl)
      | refine AV.bool_congr ?_
    rw [← this]; rfl
  have hst := tFiring_le hi'
  rw [tFiring_size, tInts_size] at hst
  have hd := firedF_drop (x := x) hi'
  rw [hi.2] at hd
  have hc := s9SameInts.ret (l.getD i default).2 x.2.2.1 (by omega)
  repeat' first
    | (conv => whnf
       first | refine Need.mk (fun h => h) ?_ | refine Need.mk rfl ?_ | refine Ix.mapN (fun _ => rfl) ?_ | refine Fork.decY ?_ | refine Fork.mk (fun _ => ?_) (fun _ => ?_) | refine Round.mk ?_ | refine LitO.own rfl ?_ | refine FinVal.keep ?_ | refine Final.mk ?_ rfl | refine AQCall.mkA _ _ (fun hg => hc) rfl ?_)
    | refine AV.bool_congr ?_
  · rename_i h1
    rw [Int.toNat_natCast] at h1
    rw [hd, h1]; rfl
  · rename_i h1
    rw [Int.toNat_natCast] at h1
    refine ⟨i + 1, ⟨by omega, by rw [hd, h1]; rfl⟩, ?_, by omega⟩
    repeat' first
      | exact trivial | refine wl_ ?_ ?_ ?_ ?_ | refine And.intro ?_ ?_ | with_reducible rfl | exact ble_ | refine AV.int_congr ?_ | refine AV.list_congr ?_ | (apply rfl)
    rw [wrap64 (by omega) (by omega)]; rfl
theorem Abs.Sees0.rptr9 (xs : List Tr) : Sees0 (.rptr (oldL xs)) (.rptr (oldL xs)) := Sees0.erase (by
  show AV.rptr (mapTL noTok (oldL xs)) = _
  rw [mapTL_old])
theorem sees_olds9 : ∀ (bx : List ABox) (xs : List Tr), SeesL (SeesB bx) (oldL xs) (oldL xs)
  | _, [] => .nil
  | bx, x :: xs => .cons (SeesB.of0 (Sees0.old x)) (sees_olds9 bx xs)
end Go.Proofs.YtiloafmpienmhaaGreat
namespace Go.Proofs.YtiloafmpienmhaaGreat
open Abs
mutual
theorem old_ok : ∀ (x : Tr) (m : Nat), noTk (old x) = true ∧ inB m (old x)
  | .v _, _ => ⟨rfl, trivial⟩
  | .s _, _ => ⟨rfl, trivial⟩
  | .l _ _ xs, _ => ⟨oldLL_ok xs, trivial⟩
  | .a fs, m => inBL_all (oldL_ok fs m)
  | .p fs, m => inBL_all (oldL_ok fs m)
theorem oldL_ok : ∀ (xs : List Tr) (m : Nat), ∀ c ∈ oldL xs, noTk c = true ∧ inB m c
  | [], _, c, hc => by simp [oldL] at hc
  | x :: xs, m, c, hc => by
    rw [oldL] at hc
    rcases List.mem_cons.1 hc with rfl | hc
    · exact old_ok x m
    · exact oldL_ok xs m c hc
theorem oldLL_ok : ∀ (xs : List (List Tr)), noTkLL (oldLL xs) = true
  | [] => rfl
  | x :: xs => by
    rw [oldLL, noTkLL, (inBL_all (oldL_ok x 0)).1, oldLL_ok xs]; rfl
end
theorem noTk_old (xs : List Tr) : ∀ c ∈ oldL xs, noTk c = true := fun c hc => (oldL_ok xs 0 c hc).1
end Go.Proofs.YtiloafmpienmhaaGreat
namespace Go.Proofs.YtiloafmpienmhaaGreat
open Abs
def setR (v x : Str) : List VPair → List VPair
  | [] => [(v, x)]
  | p :: b => if blt v p.1 then (v, x) :: p :: b else p :: setR v x b
abbrev AscP (b : List VPair) : Prop := b.Pairwise fun p q => p.1 < q.1
theorem lookV_mem : ∀ {b : List VPair} {k v : Str}, lookV b k = some v → (k, v) ∈ b
  | [], _, _, h => by cases h
  | p :: b, k, v, h => by
    rw [lookV] at h
    split at h
    · rename_i e; cases h; subst e; simp
    · exact List.mem_cons_of_mem _ (lookV_mem h)
theorem lookV_none : ∀ {b : List VPair} {k : Str}, lookV b k = none → ∀ p ∈ b, p.1 ≠ k
  | [], _, _, p, hp => by simp at hp
  | q :: b, k, h, p, hp => by
    rw [lookV] at h
    split at h
    · cases h
    · rename_i e
      rcases List.mem_cons.1 hp with rfl | hp
      · exact e
      · exact lookV_none h p hp
structure Like (e m : List VPair) : Prop where
  asc : AscP e
  perm : (e.map (·.1)).Perm (m.map (·.1))
  val : ∀ p ∈ e, mget m p.1 = some p.2
theorem mget_key : ∀ {m : List VPair} {k v : Str}, mget m k = some v → k ∈ m.map (·.1)
  | [], _, _, h => by cases h
  | p :: m, k, v, h => by
    rw [mget] at h
    split at h
    · rename_i e; subst e; simp
    · exact List.mem_cons_of_mem _ (mget_key h)
theorem Like.len {e m : List VPair} (h : Like e m) : e.length = m.length := by simpa using h.perm.length_eq
theorem Like.look {e m : List VPair} (h : Like e m) (k : Str) : lookV e k = mget m k := by
  cases h1 : lookV e k with
  | some v => exact (h.val _ (lookV_mem h1)).symm
  | none =>
    cases h2 : mget m k with
    | none => rfl
    | some v =>
      obtain ⟨p, hp, hk⟩ := List.mem_map.1 (h.perm.symm.mem_iff.1 (mget_key h2))
      exact absurd hk (lookV_none h1 p hp)
theorem mem_setR {v x : Str} : ∀ {b : List VPair} {p : VPair}, p ∈ setR v x b ↔ p = (v, x) ∨ p ∈ b
  | [], p => by simp [setR]
  | q :: b, p => by
    rw [setR]
    split
    · simp
    · simp only [List.mem_cons, mem_setR (b := b)]
      constructor
      · rintro (h | h | h) <;> simp [h]
      · rintro (h | h | h) <;> simp [h]
theorem setR_perm {v x : Str} : ∀ b : List VPair, (setR v x b).Perm (b ++ [(v, x)])
  | [] => List.Perm.refl _
  | q :: b => by
    rw [setR]
    split
    · exact (List.perm_append_singleton (v, x) (q :: b)).symm
    · exact (setR_perm b).cons q
theorem setR_asc {v x : Str} : ∀ {b : List VPair}, AscP b → (∀ p ∈ b, p.1 ≠ v) → AscP (setR v x b)
  | [], _, _ => by simp [setR]
  | q :: b, h, hn => by
    obtain ⟨h1, h2⟩ := List.pairwise_cons.1 h
    rw [setR]
    split
    · rename_i hlt
      rw [blt_eq, decide_eq_true_eq] at hlt
      refine List.pairwise_cons.2 ⟨fun p hp => ?_, h⟩
      rcases List.mem_cons.1 hp with rfl | hp
      · exact hlt
      · exact List.lt_trans hlt (h1 p hp)
    · rename_i hlt
      have hlt : blt v q.1 = false := by simpa using hlt
      have h3 : q.1 < v := by
        cases h4 : blt q.1 v with
        | true => rwa [blt_eq, decide_eq_true_eq] at h4
        | false => exact absurd (blt_sto.tri _ _ h4 hlt) (hn q (by simp))
      refine List.pairwise_cons.2 ⟨fun p hp => ?_, setR_asc h2 (fun p hp => hn p (by simp [hp]))⟩
      rcases mem_setR.1 hp with rfl | hp
      · exact h3
      · exact h1 p hp
theorem mget_snoc {m : List VPair} {v x : Str} : ∀ {k : Str}, mget (m ++ [(v, x)]) k = (match mget m k with | some u => some u | none => if v = k then some x else none) := by
  induction m with
  | nil => intro k; rfl
  | cons p m ih =>
    intro k
    rw [List.cons_append, mget, mget]
    split
    · rfl
    · exact ih
theorem Like.set {e m : List VPair} (h : Like e m) {v x : Str} (hn : mget m v = none) : Like (setR v x e) (mput m v x) := by
  have hm : mput m v x = m ++ [(v, x)] := by
    refine (mget_no fun p hp he => ?_).2 x
    have hl : lookV e v = none := by rw [h.look]; exact hn
    obtain ⟨q, hq, hk⟩ := List.mem_map.1 (h.perm.symm.mem_iff.1 (List.mem_map.2 ⟨p, hp, rfl⟩))
    exact lookV_none hl q hq (hk.trans he)
  have hl : lookV e v = none := by rw [h.look]; exact hn
  rw [hm]
  refine ⟨setR_asc h.asc (lookV_none hl), ?_, fun p hp => ?_⟩
  · refine ((setR_perm e).map _).trans ?_
    rw [List.map_append, List.map_append]
    exact h.perm.append (List.Perm.refl _)
  · rw [mget_snoc]
    rcases mem_setR.1 hp with rfl | hp
    · rw [hn]; simp
    · rw [h.val p hp]
end Go.Proofs.YtiloafmpienmhaaGreat
namespace Go.Proofs.YtiloafmpienmhaaGreat
namespace Abs
def TAt (b : List ABox) (n : Nat) (X Y : Tr) (b' : List ABox) : Prop := ∃ pre post, pre.length = n ∧ b = pre ++ gb X n ++ post ∧ pre ++ gb Y n ++ post = b'
theorem TAt.more {A D A' : List ABox} {n : Nat} {X Y : Tr} (h : TAt A n X Y A') : TAt (A ++ D) n X Y (A' ++ D) := by
  obtain ⟨pre, post, h1, rfl, rfl⟩ := h
  exact ⟨pre, post ++ D, h1, by simp, by simp⟩
end Abs
end Go.Proofs.YtiloafmpienmhaaGreat
namespace Go.Proofs.YtiloafmpienmhaaGreat
open Abs
def lawExactIsEngine.code : ACode := (q_ (r_ [s 1 (.box (t 0)), s 2 mf_]) (q_ (r_ [s 3 (.mv (i_ 1048576))]) (q_ (r_ [s 7 (a_ 6 1), v_ 8 3, s 9 (.call 23 [t 7, t 8]), v_ 3 9]) (q_ (q_ (r_ [v_ 10 3, s 11 (.bin .lss (t 10) (i_ 0))]) (.cond (t 11) (q_ (r_ [s 2 mt_]) .ret) .skip)) (q_ (r_ [s 12 (a_ 6 1), s 13 (.call 25 [t 12]), s 14 (.call 24 [t 13]), v_ 4 14]) (q_ (r_ [s 15 (a_ 6 1), s 16 (.call 25 [t 15]), s 5 (.alloc [(.slice none 0 0), (.slice none 0 0), (.int .i64 (.ofNat 0)), (.slice none 0 0), (.bool false), (.slice none 0 0)]), ⟨none, none, (.store 6 (t 5) (t 16))⟩]) (q_ (r_ [s 17 (a_ 6 5), s 18 (.call 26 [t 17]), v_ 6 18]) (q_ (q_ (r_ [v_ 19 6, v_ 20 4, s 21 (.binb .neq (t 19) (t 20))]) (.cond (t 21) (q_ (r_ [s 2 mf_]) .ret) .skip)) (q_ (q_ (.held [s 22 (a_ 6 5), s 23 (a_ 6 1), s 24 (.call 25 [t 23])] [s 25 (.call 27 [t 22, t 24]), s 26 (.not (t 25))]) (.cond (t 26) (q_ (r_ [s 2 mf_]) .ret) .skip)) (q_ (r_ [s 2 mt_]) .ret))))))))))
theorem lawExactIsEngine.ir : IrAt Tryz.prog 4 lawExactIsEngine.code [0, 1, 2, 3, 4, 5, 6] [.tmp 2] Tryz.f4.ntmps := ir_ Tryz.func4
abbrev lawExactIsEngine.Ret (args : List AV) (r : AV) (frs : Fr) : Prop := Abs.Ret true Tryz.prog 4 args r frs
end Go.Proofs.YtiloafmpienmhaaGreat
namespace Go.Proofs.YtiloafmpienmhaaGreat
open Abs Go.RowKit
theorem findR_lt9 : ∀ (l : List VRule) (f : Str) (n : Int), 0 ≤ n → findR l f n < n + l.length ∧ (findR l f n = -1 ∨ n ≤ findR l f n)
  | [], f, n, h => by
    refine ⟨?_, .inl rfl⟩
    show (-1 : Int) < n + 0
    omega
  | g :: l, f, n, h => by
    rw [findR]
    split
    · simp only [List.length_cons]; omega
    · have := findR_lt9 l f (n + 1) (by omega)
      simp only [List.length_cons]; omega
end Go.Proofs.YtiloafmpienmhaaGreat
namespace Go.Proofs.YtiloafmpienmhaaGreat
open Abs
abbrev VEngine := List VRule × List VStamp × Int × List VFiring × Bool × List VEvent
instance : DecidableEq VEngine := instDecidableEqProd
def tEngine : Ty VEngine := Ty.pair tRules (Ty.pair tStamps (Ty.pair Ty.int (Ty.pair tFirings (Ty.pair Ty.bool tEvents))))
theorem tEngine_size (a : VEngine) : tEngine.size a = tRules.size a.1 + (tStamps.size a.2.1 + (0 + (tFirings.size a.2.2.2.1 + (0 + tEvents.size a.2.2.2.2.2)))) := rfl
set_option maxHeartbeats 4000000 in
theorem toEngine.ret (a : VEngine) (h : tEngine.size a ≤ 1048576) : toEngine.Ret [.agg (oldL (tEngine.q a))] (.agg (tEngine.tk a 0)) (tEngine.fr a) := by
  refine toEngine.ir.of rfl ?_
  rw [tEngine_size] at h
  repeat' first
    | (conv => whnf
       first | refine Need.mk ⟨rfl, Nat.le_of_ble_eq_true rfl⟩ ?_ | refine nb_ ?_ | refine FinAgg.keep ?_ | refine Final.mk ?_ ?_ | refine ACall.mk_RuleS _ _ (toRuleS.ret _ ?_) (by repeat' first | exact SeesL.nil | refine SeesL.cons ?_ ?_ | exact SeesB.of0 (Sees0.val _) | exact SeesB.of0 (Sees0.str _) | exact SeesB.of0 (Sees0.olds _ _) | exact SeesB.of0 (Sees0.old _) | exact SeesB.of0 (Sees0.oldagg _) | exact SeesB.of0 Sees0.nil | exact Sees0.val _ | exact Sees0.str _ | exact Sees0.olds _ _ | exact Sees0.old _ | exact Sees0.oldagg _ | exact Sees0.nil | exact SeesB.of0 (Sees0.any _) | assumption | exact sees_gv _ _ _ (by assumption) (by first | assumption | exact BoxIn.last _ _ | exact BoxIn.more (BoxIn.last _ _) _) | refine SeesB.agg ?_ | refine Sees0.agg ?_ | exact SeesB.of0 (Sees0.clo SeesL.nil SeesL.nil) | exact Sees0.clo SeesL.nil SeesL.nil | exact SeesB.of0 (Sees0.list rfl) | exact Sees0.list rfl) ?_ | refine ACall.mk_StampS _ _ (toStampS.ret _ ?_) (by repeat' first | exact SeesL.nil | refine SeesL.cons ?_ ?_ | exact SeesB.of0 (Sees0.val _) | exact SeesB.of0 (Sees0.str _) | exact SeesB.of0 (Sees0.olds _ _) | exact SeesB.of0 (Sees0.old _) | exact SeesB.of0 (Sees0.oldagg _) | exact SeesB.of0 Sees0.nil | exact Sees0.val _ | exact Sees0.str _ | exact Sees0.olds _ _ | exact Sees0.old _ | exact Sees0.oldagg _ | exact Sees0.nil | exact SeesB.of0 (Sees0.any _) | assumption | exact sees_gv _ _ _ (by assumption) (by first | assumption | exact BoxIn.last _ _ | exact BoxIn.more (BoxIn.last _ _) _) | refine SeesB.agg ?_ | refine Sees0.agg ?_ | exact SeesB.of0 (Sees0.clo SeesL.nil SeesL.nil) | exact Sees0.clo SeesL.nil SeesL.nil | exact SeesB.of0 (Sees0.list rfl) | exact Sees0.list rfl) ?_ | refine ACall.mk_FiringS _ _ (toFiringS.ret _ ?_) (by repeat' first | exact SeesL.nil | refine SeesL.cons ?_ ?_ | exact SeesB.of0 (Sees0.val _) | exact SeesB.of0 (Sees0.str _) | exact SeesB.of0 (Sees0.olds _ _) | exact SeesB.of0 (Sees0.old _) | exact SeesB.of0 (Sees0.oldagg _) | exact SeesB.of0 Sees0.nil | exact Sees0.val _ | exact Sees0.str _ | exact Sees0.olds _ _ | exact Sees0.old _ | exact Sees0.oldagg _ | exact Sees0.nil | exact SeesB.of0 (Sees0.any _) | assumption | exact sees_gv _ _ _ (by assumption) (by first | assumption | exact BoxIn.last _ _ | exact BoxIn.more (BoxIn.last _ _) _) | refine SeesB.agg ?_ | refine Sees0.agg ?_ | exact SeesB.of0 (Sees0.clo SeesL.nil SeesL.nil) | exact Sees0.clo SeesL.nil SeesL.nil | exact SeesB.of0 (Sees0.list rfl) | exact Sees0.list rfl) ?_ | refine ACall.mk_EventS _ _ (toEventS.ret _ ?_) (by repeat' first | exact SeesL.nil | refine SeesL.cons ?_ ?_ | exact SeesB.of0 (Sees0.val _) | exact SeesB.of0 (Sees0.str _) | exact SeesB.of0 (Sees0.olds _ _) | exact SeesB.of0 (Sees0.old _) | exact SeesB.of0 (Sees0.oldagg _) | exact SeesB.of0 Sees0.nil | exact Sees0.val _ | exact Sees0.str _ | exact Sees0.olds _ _ | exact Sees0.old _ | exact Sees0.oldagg _ | exact Sees0.nil | exact SeesB.of0 (Sees0.any _) | assumption | exact sees_gv _ _ _ (by assumption) (by first | assumption | exact BoxIn.last _ _ | exact BoxIn.more (BoxIn.last _ _) _) | refine SeesB.agg ?_ | refine Sees0.agg ?_ | exact SeesB.of0 (Sees0.clo SeesL.nil SeesL.nil) | exact Sees0.clo SeesL.nil SeesL.nil | exact SeesB.of0 (Sees0.list rfl) | exact Sees0.list rfl) ?_)
  all_goals first
    | omega
    | (refine congrArg AV.agg ?_
       repeat' first
         | refine cons_congr ?_ ?_
         | refine tok_congr ?_ ?_
         | refine congrArg (tks _ _) ?_
         | rfl
       all_goals (simp [Ty.pair, Ty.str, Ty.int, Ty.bool, Nat.add_assoc]; done))
    | (simp [tEngine, Ty.pair, Ty.str, Ty.int, Ty.bool, List.append_assoc, Nat.add_assoc]; done)
theorem toEngine.own (a : VEngine) (h : tEngine.size a ≤ 1048576) : toEngine.Own [.agg (oldL (tEngine.q a))] (.a (tEngine.q a)) := Ty.ownA tEngine (toEngine.ret a h)
set_option maxHeartbeats 4000000 in
theorem szEngine.ret (f : VEngine) (a : Int) (h0 : 0 ≤ a) (ha : a ≤ 1048576) (hb : tEngine.bd f) :
    szEngine.Ret [.agg (oldL (tEngine.q f)), .val (.int .i64 a)] (.val (.int .i64 (left a (tEngine.size f)))) [] := by
  refine szEngine.ir.of rfl ?_
  have hz := tEngine_size f
  obtain ⟨hb0, hb1, hb2, hb3, hb4, hb5⟩ := hb
  by_cases c1 : a < (tRules.size f.1 : Int)
  · have e0 : left a (tRules.size f.1) = -1 := by rw [left, if_pos (by omega)]
    repeat' first
      | (conv => whnf
         first | refine Need.mk rfl ?_ | refine Fork.decYes (by omega) ?_ | refine LitO.own rfl ?_ | refine FinVal.keep ?_ | refine Final.mk ?_ rfl | refine ACall.scalA _ _ (szRuleS.ret _ _ ?_ ?_ ?_) rfl ?_)
      | refine AV.int_congr ?_
    all_goals first
      | assumption
      | omega
      | exact left_eq (by omega)
  by_cases c2 : a < (tRules.size f.1 : Int) + (tStamps.size f.2.1 : Int)
  · have e0 : left a (tRules.size f.1) = a - (tRules.size f.1 : Int) := by rw [left, if_neg (by omega)]
    have e1 : left (left a (tRules.size f.1)) (tStamps.size f.2.1) = -1 := by rw [e0, left, if_pos (by omega)]
    repeat' first
      | (conv => whnf
         first | refine Need.mk rfl ?_ | refine Fork.decYes (by omega) ?_ | refine Fork.decNo (by omega) ?_ | refine LitO.own rfl ?_ | refine FinVal.keep ?_ | refine Final.mk ?_ rfl | refine ACall.scalA _ _ (szRuleS.ret _ _ ?_ ?_ ?_) rfl ?_ | refine ACall.scalA _ _ (szStampS.ret _ _ ?_ ?_ ?_) rfl ?_)
      | refine AV.int_congr ?_
    all_goals first
      | assumption
      | omega
      | exact left_eq (by omega)
  by_cases c3 : a < (tRules.size f.1 : Int) + (tStamps.size f.2.1 : Int) + (tFirings.size f.2.2.2.1 : Int)
  · have e0 : left a (tRules.size f.1) = a - (tRules.size f.1 : Int) := by rw [left, if_neg (by omega)]
    have e1 : left (left a (tRules.size f.1)) (tStamps.size f.2.1) = a - (tRules.size f.1 : Int) - (tStamps.size f.2.1 : Int) := by rw [e0, left, if_neg (by omega)]
    have e2 : left (left (left a (tRules.size f.1)) (tStamps.size f.2.1)) (tFirings.size f.2.2.2.1) = -1 := by rw [e1, left, if_pos (by omega)]
    repeat' first
      | (conv => whnf
         first | refine Need.mk rfl ?_ | refine Fork.decYes (by omega) ?_ | refine Fork.decNo (by omega) ?_ | refine LitO.own rfl ?_ | refine FinVal.keep ?_ | refine Final.mk ?_ rfl | refine ACall.scalA _ _ (szRuleS.ret _ _ ?_ ?_ ?_) rfl ?_ | refine ACall.scalA _ _ (szStampS.ret _ _ ?_ ?_ ?_) rfl ?_ | refine ACall.scalA _ _ (szFiringS.ret _ _ ?_ ?_ ?_) rfl ?_)
      | refine AV.int_congr ?_
    all_goals first
      | assumption
      | omega
      | exact left_eq (by omega)
  by_cases c4 : a < (tRules.size f.1 : Int) + (tStamps.size f.2.1 : Int) + (tFirings.size f.2.2.2.1 : Int) + (tEvents.size f.2.2.2.2.2 : Int)
  · have e0 : left a (tRules.size f.1) = a - (tRules.size f.1 : Int) := by rw [left, if_neg (by omega)]
    have e1 : left (left a (tRules.size f.1)) (tStamps.size f.2.1) = a - (tRules.size f.1 : Int) - (tStamps.size f.2.1 : Int) := by rw [e0, left, if_neg (by omega)]
    have e2 : left (left (left a (tRules.size f.1)) (tStamps.size f.2.1)) (tFirings.size f.2.2.2.1) = a - (tRules.size f.1 : Int) - (tStamps.size f.2.1 : Int) - (tFirings.size f.2.2.2.1 : Int) := by rw [e1, left, if_neg (by omega)]
    have e3 : left (left (left (left a (tRules.size f.1)) (tStamps.size f.2.1)) (tFirings.size f.2.2.2.1)) (tEvents.size f.2.2.2.2.2) = -1 := by rw [e2, left, if_pos (by omega)]
    repeat' first
      | (conv => whnf
         first | refine Need.mk rfl ?_ | refine Fork.decYes (by omega) ?_ | refine Fork.decNo (by omega) ?_ | refine LitO.own rfl ?_ | refine FinVal.keep ?_ | refine Final.mk ?_ rfl | refine ACall.scalA _ _ (szRuleS.ret _ _ ?_ ?_ ?_) rfl ?_ | refine ACall.scalA _ _ (szStampS.ret _ _ ?_ ?_ ?_) rfl ?_ | refine ACall.scalA _ _ (szFiringS.ret _ _ ?_ ?_ ?_) rfl ?_ | refine ACall.scalA _ _ (szEventS.ret _ _ ?_ ?_ ?_) rfl ?_)
      | refine AV.int_congr ?_
    all_goals first
      | assumption
      | omega
      | exact left_eq (by omega)
  have e0 : left a (tRules.size f.1) = a - (tRules.size f.1 : Int) := by rw [left, if_neg (by omega)]
  have e1 : left (left a (tRules.size f.1)) (tStamps.size f.2.1) = a - (tRules.size f.1 : Int) - (tStamps.size f.2.1 : Int) := by rw [e0, left, if_neg (by omega)]
  have e2 : left (left (left a (tRules.size f.1)) (tStamps.size f.2.1)) (tFirings.size f.2.2.2.1) = a - (tRules.size f.1 : Int) - (tStamps.size f.2.1 : Int) - (tFirings.size f.2.2.2.1 : Int) := by rw [e1, left, if_neg (by omega)]
  have e3 : left (left (left (left a (tRules.size f.1)) (tStamps.size f.2.1)) (tFirings.size f.2.2.2.1)) (tEvents.size f.2.2.2.2.2) = a - (tRules.size f.1 : Int) - (tStamps.size f.2.1 : Int) - (tFirings.size f.2.2.2.1 : Int) - (tEvents.size f.2.2.2.2.2 : Int) := by rw [e2, left, if_neg (by omega)]
  repeat' first
    | (conv => whnf
       first | refine Need.mk rfl ?_ | refine Fork.decNo (by omega) ?_ | refine LitO.own rfl ?_ | refine FinVal.keep ?_ | refine Final.mk ?_ rfl | refine ACall.scalA _ _ (szRuleS.ret _ _ ?_ ?_ ?_) rfl ?_ | refine ACall.scalA _ _ (szStampS.ret _ _ ?_ ?_ ?_) rfl ?_ | refine ACall.scalA _ _ (szFiringS.ret _ _ ?_ ?_ ?_) rfl ?_ | refine ACall.scalA _ _ (szEventS.ret _ _ ?_ ?_ ?_) rfl ?_)
    | refine AV.int_congr ?_
  all_goals first
    | assumption
    | omega
    | exact left_eq (by omega)
set_option maxHeartbeats 4000000 in
theorem eqEngine.big (f g : VEngine) (h : tEngine.size f ≤ 1099511627775) : eqEngine.Ret [.agg (oldL (tEngine.q f)), .agg (oldL (tEngine.q g))] (.val (.bool (decide (f = g)))) [] := by
  refine eqEngine.ir.of rfl ?_
  have hz := tEngine_size f
  repeat' first
    | (conv => whnf
       first | refine Need.mk rfl ?_ | refine Fork.bne (fun _ => ?_) (fun _ => ?_) | refine Fork.neg (fun _ => ?_) (fun _ => ?_) | refine LitO.own rfl ?_ | refine FinVal.keep ?_ | refine Final.mk ?_ rfl | refine ACall.scalA _ _ (eqRuleS.big _ _ ?_) rfl ?_ | refine ACall.scalA _ _ (eqStampS.big _ _ ?_) rfl ?_ | refine ACall.scalA _ _ (eqFiringS.big _ _ ?_) rfl ?_ | refine ACall.scalA _ _ (eqEventS.big _ _ ?_) rfl ?_)
    | refine AV.bool_congr ?_
  all_goals first
    | omega
    | (simp only [tStrs_size, tInts_size] at *; omega)
    | (obtain ⟨x0, x1, x2, x3, x4, x5⟩ := f; obtain ⟨y0, y1, y2, y3, y4, y5⟩ := g; simp_all)
end Go.Proofs.YtiloafmpienmhaaGreat
namespace Go.Proofs.YtiloafmpienmhaaGreat
open Abs Go.RowKit
def hasN (l : List VCond) : Nat := (l.filter fun x => x.1 == 1).length
theorem hasN_yes {l : List VCond} {i : Nat} (hi : i < l.length) (h : (l.getD i default).1 = 1) : hasN (l.take (i + 1)) = hasN (l.take i) + 1 := by
  rw [hasN, take_succ' default hi, List.filter_append, List.length_append, List.filter_cons_of_pos (by rw [h]; rfl)]; rfl
theorem hasN_no {l : List VCond} {i : Nat} (hi : i < l.length) (h : (l.getD i default).1 ≠ 1) : hasN (l.take (i + 1)) = hasN (l.take i) := by
  rw [hasN, take_succ' default hi, List.filter_append, List.length_append, List.filter_cons_of_neg (by rw [beq_iff_eq]; exact h)]; rfl
theorem hasN_le (l : List VCond) (i : Nat) : hasN (l.take i) ≤ l.length := Nat.le_trans (List.length_filter_le _ _) (by rw [List.length_take]; omega)
theorem s10Has.ret (r : VRule) (h : tRule.size r ≤ 1048576) : s10Has.Ret [.agg (oldL (tRule.q r))] (.val (.int .i64 (hasN r.2.2.1))) [] := by
  refine s10Has.ir.ofS rfl rfl ?_
  rw [tRule_sz] at h
  skip
  refine ALoop.mk Nat (fun i => ⟨[(1, .bptr 0 0), (3, .val (.int .i64 ((hasN (r.2.2.1.take i) : Nat) : Int))), (4, .val (.int .i64 i))], [.cells .var (oldL (tRule.q r))], []⟩) (fun i => i ≤ r.2.2.1.length) (fun i => r.2.2.1.length - i) ⟨0, Nat.zero_le _, ?_⟩ (fun i hi => ?_)
  · repeat' first
      | exact trivial | refine wl_ ?_ ?_ ?_ ?_ | refine And.intro ?_ ?_ | with_reducible rfl | exact ble_ | refine AV.int_congr ?_ | (apply rfl)
  have hl := hasN_le r.2.2.1 i
  by_cases hi' : i < r.2.2.1.length
  rotate_left
  · repeat' first
      | (conv => whnf
         first | refine Need.mk rfl ?_ | refine Fork.decN ?_ | refine LitO.own rfl ?_ | refine FinVal.keep ?_ | refine Final.mk ?_ rfl)
      | refine AV.int_congr ?_
    rw [List.take_of_length_le (by omega)]
  repeat' first
    | (conv => whnf
       first | refine Need.mk rfl ?_ | refine Ix.mapN (fun _ => rfl) ?_ | refine Fork.decY ?_ | refine Fork.dec (fun _ => ?_) (fun _ => ?_) | refine Round.mk ?_ | refine LitO.own rfl ?_)
  · rename_i h1
    refine ⟨i + 1, by omega, ?_, by omega⟩
    repeat' first
      | exact trivial | refine wl_ ?_ ?_ ?_ ?_ | refine And.intro ?_ ?_ | with_reducible rfl | exact ble_ | refine AV.int_congr ?_ | (apply rfl)
    · rw [hasN_yes hi' (by simpa using h1), wrap64 (by omega) (by omega)]; rfl
    · rw [wrap64 (by omega) (by omega)]; rfl
  · rename_i h1
    refine ⟨i + 1, by omega, ?_, by omega⟩
    repeat' first
      | exact trivial | refine wl_ ?_ ?_ ?_ ?_ | refine And.intro ?_ ?_ | with_reducible rfl | exact ble_ | refine AV.int_congr ?_ | (apply rfl)
    · rw [hasN_no hi' (by simpa using h1)]
    · rw [wrap64 (by omega) (by omega)]; rfl
def firOk (rs : List VRule) (c : Int) (f : VFiring) : Bool := decide (0 ≤ findR rs f.1 0) && ((f.2.length : Int) == (hasN (rs.getD (findR rs f.1 0).toNat default).2.2.1 : Int)) && f.2.all fun t => decide (1 ≤ t) && decide (t ≤ c)
theorem rule_getD_le (l : List VRule) (i : Nat) : tRule.size (l.getD i default) ≤ tRules.size l := by
  rw [tRules_sz]
  by_cases hi : i < l.length
  · have := tRule_le hi; omega
  · rw [List.getD_eq_getElem?_getD, List.getElem?_eq_none (by omega)]
    exact Nat.zero_le _
theorem s10Firing.ret (e : VEngine) (f : VFiring) (h : tEngine.size e ≤ 1048576) (hf : tFiring.size f ≤ 1048576) : s10Firing.Ret [.agg (oldL (tEngine.q e)), .agg (oldL (tFiring.q f))] (.val (.bool (firOk e.1 e.2.2.1 f))) [] := by
  refine s10Firing.ir.ofS rfl rfl ?_
  rw [tEngine_size] at h
  rw [tFiring_size, tInts_size] at hf
  have hF := sFindRule.ret e.1 f.1 (by omega)
  have hlt := (findR_lt9 e.1 f.1 0 (Int.le_refl 0)).1
  have hH := s10Has.ret (e.1.getD (findR e.1 f.1 0).toNat default) (by have := rule_getD_le e.1 (findR e.1 f.1 0).toNat; omega)
  have eI : (oldLL (f.2.map Ty.int.q)).length = f.2.length := by simp
  repeat' first
    | (conv => whnf
       first | refine Need.mk (fun h => h) ?_ | refine Need.mk rfl ?_ | refine nb_ ?_ | refine Ix.map (fun _ => rfl) ?_ ?_ | refine Fork.mk (fun _ => ?_) (fun _ => ?_) | refine LitO.own rfl ?_ | refine FinVal.keep ?_ | refine Final.mk ?_ rfl | refine ACall.scalA _ _ (hF) rfl ?_ | refine AQCall.mkA _ _ (fun hg => hH) rfl ?_)
    | refine AV.bool_congr ?_
  · intro hx; simp at hx; omega
  · rename_i h1
    rw [eI] at h1
    unfold firOk
    rw [Bool.or_eq_true] at h1
    rcases h1 with h1 | h1
    · rw [decide_eq_false (by simpa using h1)]; rfl
    · have h1 : ¬ ((f.2.length : Int) = (hasN (e.1.getD (findR e.1 f.1 0).toNat default).2.2.1 : Int)) := by simpa using h1
      rw [beq_eq_false_iff_ne.2 h1, Bool.and_false, Bool.false_and]
  rename_i h1
  rw [eI] at h1
  have hall : firOk e.1 e.2.2.1 f = f.2.all fun t => decide (1 ≤ t) && decide (t ≤ e.2.2.1) := by
    unfold firOk
    rw [Bool.or_eq_false_iff] at h1
    rw [decide_eq_true (by have := h1.1; simp at this; exact this), Bool.true_and, (by have := h1.2; simpa using this : ((f.2.length : Int) == (hasN (e.1.getD (findR e.1 f.1 0).toNat default).2.2.1 : Int)) = true), Bool.true_and]
  refine ALoop.mk Nat (fun i => ⟨[(2, .bptr 0 0), (3, .bptr 1 0), (6, .val (.int .i64 i))], [.cells .var (oldL (tEngine.q e)), .cells .var (oldL (tFiring.q f))], []⟩) (fun i => i ≤ f.2.length ∧ (f.2.take i).all (fun t => decide (1 ≤ t) && decide (t ≤ e.2.2.1)) = true) (fun i => f.2.length - i) ⟨0, ⟨Nat.zero_le _, rfl⟩, ?_⟩ (fun i hi => ?_)
  · repeat' first
      | exact trivial | refine wl_ ?_ ?_ ?_ ?_ | refine And.intro ?_ ?_ | with_reducible rfl | exact ble_ | refine AV.int_congr ?_ | (apply rfl)
  by_cases hi' : i < f.2.length
  rotate_left
  · have h2 := hi.2
    rw [List.take_of_length_le (by omega)] at h2
    repeat' first
      | (conv => whnf
         first | refine Need.mk rfl ?_ | refine Fork.decN ?_ | refine LitO.own rfl ?_ | refine FinVal.keep ?_ | refine Final.mk ?_ rfl)
      | refine AV.bool_congr ?_
    rw [hall, h2]
  have hc := l1In.ret (f.2.getD i default) 1 e.2.2.1
  repeat' first
    | (conv => whnf
       first | refine Need.mk rfl ?_ | refine Ix.mapN (fun _ => rfl) ?_ | refine Fork.decY ?_ | refine Fork.neg (fun _ => ?_) (fun _ => ?_) | refine Round.mk ?_ | refine LitO.own rfl ?_ | refine FinVal.keep ?_ | refine Final.mk ?_ rfl | refine AQCall.mkA _ _ (fun hg => hc) rfl ?_)
    | refine AV.bool_congr ?_
  · rename_i h2
    rw [hall]
    exact (allD_no (q := fun t => decide (1 ≤ t) && decide (t ≤ e.2.2.1)) hi' h2).symm
  · rename_i h2
    refine ⟨i + 1, ⟨by omega, allD_succ (q := fun t => decide (1 ≤ t) && decide (t ≤ e.2.2.1)) hi' hi.2 h2⟩, ?_, by omega⟩
    repeat' first
      | exact trivial | refine wl_ ?_ ?_ ?_ ?_ | refine And.intro ?_ ?_ | with_reducible rfl | exact ble_ | refine AV.int_congr ?_ | (apply rfl)
    rw [wrap64 (by omega) (by omega)]; rfl
def firsOk (rs : List VRule) (c : Int) (l : List VFiring) : Bool := (List.range l.length).all fun i => firOk rs c (l.getD i default) && !decide (l.getD i default ∈ l.take i)
theorem firs_no {rs : List VRule} {c : Int} {l : List VFiring} {i : Nat} (hi : i < l.length) (h : (firOk rs c (l.getD i default) && !decide (l.getD i default ∈ l.take i)) = false) : firsOk rs c l = false := by
  rw [firsOk, List.all_eq_false]
  exact ⟨i, List.mem_range.2 hi, by rw [h]; simp⟩
theorem firs_yes {rs : List VRule} {c : Int} {l : List VFiring} (h : ∀ j, j < l.length → (firOk rs c (l.getD j default) && !decide (l.getD j default ∈ l.take j)) = true) : firsOk rs c l = true :=
  List.all_eq_true.2 fun j hj => h j (List.mem_range.1 hj)
def engF (e : VEngine) : Bool := areRF e.1 && memF e.2.1 && (decide (0 ≤ e.2.2.1) && decide (e.2.2.1 ≤ 200)) && decide ((e.2.2.2.1.length : Int) ≤ 40) && decide ((e.2.2.2.2.2.length : Int) ≤ 500) && (e.2.1.all fun s => decide (s.2 ≤ e.2.2.1)) && firsOk e.1 e.2.2.1 e.2.2.2.1 && e.2.2.2.2.2.all isEventF
theorem fired_mem (l : List VFiring) (f : VFiring) : firedF l ((f.1, [], []), 0, f.2, 0, 0) = decide (f ∈ l) := by
  rw [Bool.eq_iff_iff, firedF, List.any_eq_true, decide_eq_true_eq]
  constructor
  · rintro ⟨g, hg, h⟩
    simp only [Bool.and_eq_true, beq_iff_eq, decide_eq_true_eq] at h
    have e : g = f := Prod.ext h.1 h.2
    rw [← e]; exact hg
  · intro h
    exact ⟨f, h, by simp⟩
set_option maxHeartbeats 4000000 in
theorem sIsEngine.ret (e : VEngine) (h : tEngine.size e ≤ 1048576) : sIsEngine.Ret [.agg (oldL (tEngine.q e))] (.val (.bool (engF e))) [] := by
  refine sIsEngine.ir.ofS rfl rfl ?_
  have hz := tEngine_size e
  have hA := sAreRules.ret e.1 (by omega)
  have hM := sIsMemory.ret e.2.1 (by omega)
  have hI := l1In.ret e.2.2.1 0 200
  have hs1 := tStamps_sz e.2.1
  have hs2 := tFirings_sz e.2.2.2.1
  have hs3 := tEvents_sz e.2.2.2.2.2
  repeat' first
    | (conv => whnf
       first | refine Need.mk (fun h => h) ?_ | refine Need.mk rfl ?_ | refine Fork.mk (fun _ => ?_) (fun _ => ?_) | refine LitO.own rfl ?_ | refine FinVal.keep ?_ | refine Final.mk ?_ rfl | refine ACall.scalA _ _ (hA) rfl ?_ | refine AGCall.mkA _ _ (fun hg => hM) rfl ?_ | refine AGCall.mkA _ _ (fun hg => hI) rfl ?_)
    | refine AV.bool_congr ?_
  · rename_i h1
    simp only [length_oldLL, List.length_map] at h1
    unfold engF
    simp only [Bool.or_eq_true, Bool.not_eq_true', decide_eq_true_eq] at h1
    rcases h1 with (((h1 | h1) | h1) | h1) | h1
    · rw [h1]; simp
    · rw [h1]; simp
    · rw [h1]; simp
    · rw [decide_eq_false (p := (e.2.2.2.1.length : Int) ≤ 40) (by omega)]; simp
    · rw [decide_eq_false (p := (e.2.2.2.2.2.length : Int) ≤ 500) (by omega)]; simp
  rename_i h1
  simp only [length_oldLL, List.length_map] at h1
  have hE : engF e = ((e.2.1.all fun s => decide (s.2 ≤ e.2.2.1)) && firsOk e.1 e.2.2.1 e.2.2.2.1 && e.2.2.2.2.2.all isEventF) := by
    unfold engF
    simp only [Bool.or_eq_false_iff, Bool.not_eq_false', decide_eq_false_iff_not] at h1
    obtain ⟨⟨⟨⟨h1, h2⟩, h3⟩, h4⟩, h5⟩ := h1
    rw [h1, h2, h3, decide_eq_true (p := (e.2.2.2.1.length : Int) ≤ 40) (by omega), decide_eq_true (p := (e.2.2.2.2.2.length : Int) ≤ 500) (by omega)]
    simp only [Bool.true_and]
  clear h1 hA hM hI
  refine ALoop.mk Nat (fun i => ⟨[(1, .bptr 0 0), (3, .val (.int .i64 i))], [.cells .var (oldL (tEngine.q e))], []⟩) (fun i => i ≤ e.2.1.length ∧ (e.2.1.take i).all (fun s => decide (s.2 ≤ e.2.2.1)) = true) (fun i => e.2.1.length - i) ⟨0, ⟨Nat.zero_le _, rfl⟩, ?_⟩ (fun i hi => ?_)
  · repeat' first
      | exact trivial | refine wl_ ?_ ?_ ?_ ?_ | refine And.intro ?_ ?_ | with_reducible rfl | exact ble_ | refine AV.int_congr ?_ | (apply rfl)
  by_cases hi' : i < e.2.1.length
  · repeat' first
      | (conv => whnf
         first | refine Need.mk rfl ?_ | refine Ix.mapN (fun _ => rfl) ?_ | refine Fork.decY ?_ | refine Fork.dec (fun _ => ?_) (fun _ => ?_) | refine Round.mk ?_ | refine LitO.own rfl ?_ | refine FinVal.keep ?_ | refine Final.mk ?_ rfl)
      | refine AV.bool_congr ?_
    · rename_i h2
      rw [hE, allD_no (q := fun s : VStamp => decide (s.2 ≤ e.2.2.1)) hi' (decide_eq_false (by rw [Int.toNat_natCast] at h2; omega))]; rfl
    · rename_i h2
      refine ⟨i + 1, ⟨by omega, allD_succ (q := fun s : VStamp => decide (s.2 ≤ e.2.2.1)) hi' hi.2 (decide_eq_true (by rw [Int.toNat_natCast] at h2; omega))⟩, ?_, by omega⟩
      repeat' first
        | exact trivial | refine wl_ ?_ ?_ ?_ ?_ | refine And.intro ?_ ?_ | with_reducible rfl | exact ble_ | refine AV.int_congr ?_ | (apply rfl)
      rw [wrap64 (by omega) (by omega)]; rfl
  have hm := hi.2
  rw [List.take_of_length_le (by omega)] at hm
  rw [hm, Bool.true_and] at hE
  repeat' first
    | (conv => whnf
       first | refine Need.mk rfl ?_ | refine Fork.decN ?_ | refine LitO.own rfl ?_)
  refine ALoop.mk Nat (fun i => ⟨[(1, .bptr 0 0), (4, .val (.int .i64 i))], [.cells .var (oldL (tEngine.q e))], []⟩) (fun i => i ≤ e.2.2.2.1.length ∧ ∀ j, j < i → (firOk e.1 e.2.2.1 (e.2.2.2.1.getD j default) && !decide (e.2.2.2.1.getD j default ∈ e.2.2.2.1.take j)) = true) (fun i => e.2.2.2.1.length - i) ⟨0, ⟨Nat.zero_le _, fun j hj => absurd hj (Nat.not_lt_zero j)⟩, ?_⟩ (fun j hj => ?_)
  · repeat' first
      | exact trivial | refine wl_ ?_ ?_ ?_ ?_ | refine And.intro ?_ ?_ | with_reducible rfl | exact ble_ | refine AV.int_congr ?_ | (apply rfl)
  by_cases hj' : j < e.2.2.2.1.length
  · have hc := tFiring_le hj'
    have hF := s10Firing.ret e (e.2.2.2.1.getD j default) h (by omega)
    have hH := sHasFired.ret (e.2.2.2.1.take j) (((e.2.2.2.1.getD j default).1, [], []), 0, (e.2.2.2.1.getD j default).2, 0, 0) (by rw [tFirings_sz]; have := listSize_take_le tFiring e.2.2.2.1 j; have h9 : (e.2.2.2.1.take j).length ≤ e.2.2.2.1.length := List.length_take_le' ..; omega)
    rw [fired_mem] at hH
    repeat' first
      | (conv => whnf
         first | refine Need.mk (fun h => h) ?_ | refine Need.mk rfl ?_ | refine nb_ ?_ | refine Ix.mapN (fun _ => rfl) ?_ | refine Cut.map (fun _ => rfl) ?_ ?_ | refine Fork.decY ?_ | refine Fork.mk (fun _ => ?_) (fun _ => ?_) | refine Round.mk ?_ | refine LitO.own rfl ?_ | refine FinVal.keep ?_ | refine Final.mk ?_ rfl | refine AQCall.mkA _ _ (fun hg => hF) rfl ?_ | refine AQCall.mkA _ _ (fun hg => hH) rfl ?_)
      | refine AV.bool_congr ?_
    · intro _; omega
    · rename_i h2
      rw [hE, firs_no hj' (by revert h2; cases firOk e.1 e.2.2.1 (e.2.2.2.1.getD j default) <;> cases decide (e.2.2.2.1.getD j default ∈ e.2.2.2.1.take j) <;> simp)]; rfl
    · rename_i h2
      have h3 : (firOk e.1 e.2.2.1 (e.2.2.2.1.getD j default) && !decide (e.2.2.2.1.getD j default ∈ e.2.2.2.1.take j)) = true := by revert h2; cases firOk e.1 e.2.2.1 (e.2.2.2.1.getD j default) <;> cases decide (e.2.2.2.1.getD j default ∈ e.2.2.2.1.take j) <;> simp
      refine ⟨j + 1, ⟨by omega, fun k hk => ?_⟩, ?_, by omega⟩
      · rcases Nat.lt_or_eq_of_le (Nat.le_of_lt_succ hk) with h5 | h5
        · exact hj.2 k h5
        · subst h5; exact h3
      · repeat' first
          | exact trivial | refine wl_ ?_ ?_ ?_ ?_ | refine And.intro ?_ ?_ | with_reducible rfl | exact ble_ | refine AV.int_congr ?_ | (apply rfl)
        rw [wrap64 (by omega) (by omega)]; rfl
  have hfy := firs_yes (l := e.2.2.2.1) fun k hk => hj.2 k (by omega)
  rw [hfy, Bool.true_and] at hE
  repeat' first
    | (conv => whnf
       first | refine Need.mk rfl ?_ | refine Fork.decN ?_ | refine LitO.own rfl ?_)
  refine ALoop.mk Nat (fun i => ⟨[(1, .bptr 0 0), (5, .val (.int .i64 i))], [.cells .var (oldL (tEngine.q e))], []⟩) (fun i => i ≤ e.2.2.2.2.2.length ∧ (e.2.2.2.2.2.take i).all isEventF = true) (fun i => e.2.2.2.2.2.length - i) ⟨0, ⟨Nat.zero_le _, rfl⟩, ?_⟩ (fun k hk => ?_)
  · repeat' first
      | exact trivial | refine wl_ ?_ ?_ ?_ ?_ | refine And.intro ?_ ?_ | with_reducible rfl | exact ble_ | refine AV.int_congr ?_ | (apply rfl)
  by_cases hk' : k < e.2.2.2.2.2.length
  · have hc := tEvent_le hk'
    have hV := sIsEvent.ret (e.2.2.2.2.2.getD k default) (by omega)
    repeat' first
      | (conv => whnf
         first | refine Need.mk rfl ?_ | refine nb_ ?_ | refine Ix.mapN (fun _ => rfl) ?_ | refine Fork.decY ?_ | refine Fork.neg (fun _ => ?_) (fun _ => ?_) | refine Round.mk ?_ | refine LitO.own rfl ?_ | refine FinVal.keep ?_ | refine Final.mk ?_ rfl | refine ACall.scalA _ _ (hV) rfl ?_)
      | refine AV.bool_congr ?_
    · rename_i h2
      rw [hE]
      exact (allD_no hk' h2).symm
    · rename_i h2
      refine ⟨k + 1, ⟨by omega, allD_succ hk' hk.2 h2⟩, ?_, by omega⟩
      repeat' first
        | exact trivial | refine wl_ ?_ ?_ ?_ ?_ | refine And.intro ?_ ?_ | with_reducible rfl | exact ble_ | refine AV.int_congr ?_ | (apply rfl)
      rw [wrap64 (by omega) (by omega)]; rfl
  have h2 := hk.2
  rw [List.take_of_length_le (by omega)] at h2
  repeat' first
    | (conv => whnf
       first | refine Need.mk rfl ?_ | refine Fork.decN ?_ | refine LitO.own rfl ?_ | refine FinVal.keep ?_ | refine Final.mk ?_ rfl)
    | refine AV.bool_congr ?_
  rw [hE, h2]
end Go.Proofs.YtiloafmpienmhaaGreat
namespace Go.Proofs.YtiloafmpienmhaaGreat
open Abs
theorem firing_eq (x y : VFiring) : (x.1 == y.1 && decide (x.2 = y.2)) = decide (x = y) := by
  obtain ⟨a, b⟩ := x; obtain ⟨c, d⟩ := y
  rw [Bool.eq_iff_iff]; simp
theorem psameFiring.ret (x y : VFiring) (h : tFiring.size x ≤ 1048576) : psameFiring.Ret [.agg (oldL (tFiring.q x)), .agg (oldL (tFiring.q y))] (.val (.bool (decide (x = y)))) [] := by
  refine psameFiring.ir.of rfl ?_
  rw [tFiring_size, tInts_size] at h
  repeat' first
    | (conv => whnf
       first | refine Need.mk (fun h => h) ?_ | refine FinVal.keep ?_ | refine Final.mk ?_ rfl | refine AGCall.mkA _ _ (fun hg => slEqualI.ret _ _ ?_) rfl ?_)
    | refine AV.bool_congr ?_
  · omega
  · exact firing_eq x y
end Go.Proofs.YtiloafmpienmhaaGreat
namespace Go.Proofs.YtiloafmpienmhaaGreat
open Abs Go.RowKit
def findQ (q : VFiring → Bool) : List VFiring → Int → Int
  | [], _ => -1
  | f :: l, n => if q f = true then n else findQ q l (n + 1)
theorem findQ_drop {q : VFiring → Bool} {l : List VFiring} {i : Nat} (hi : i < l.length) : findQ q (l.drop i) i = if q (l.getD i default) = true then (i : Int) else findQ q (l.drop (i + 1)) ((i + 1 : Nat) : Int) := by
  rw [List.drop_eq_getElem_cons hi, findQ]
  simp [List.getD, hi]
theorem findQ_any (q : VFiring → Bool) : ∀ (l : List VFiring) (n : Int), 0 ≤ n → decide (0 ≤ findQ q l n) = l.any q
  | [], n, _ => rfl
  | g :: l, n, hn => by
    rw [findQ, List.any_cons]
    by_cases h : q g = true
    · rw [if_pos h, h]; simp [hn]
    · rw [if_neg h, findQ_any q l (n + 1) (by omega)]; simp [h]
theorem slIndexFuncQ.ret (q : VFiring → Bool) (F : Nat) (cs : List AV) (hcs : ∀ b, SeesL (SeesB b) cs cs) (l : List VFiring) (hq : ∀ x : VFiring, tFiring.size x ≤ 1048576 → Abs.Ret true Tryz.prog F (.agg (oldL (tFiring.q x)) :: cs) (.val (.bool (q x))) []) (h : tFirings.size l ≤ 1048576) :
    slIndexFuncG.Ret [.list none (rows tFiring l), .clo F [] cs] (.val (.int .i64 (findQ q l 0))) [] := by
  refine slIndexFuncG.ir.of rfl ?_
  rw [tFirings_sz] at h
  have hrl : (rows tFiring l).length = l.length := length_rows _ _
  skip
  refine ALoop.mk Nat (fun i => ⟨[(0, .list none (rows tFiring l)), (1, .clo F [] cs), (7, .val (.int .i64 l.length)), (8, .val (.int .i64 i))], [], []⟩) (fun i => i ≤ l.length ∧ findQ q (l.drop i) i = findQ q l 0) (fun i => l.length - i) ⟨0, ⟨Nat.zero_le _, rfl⟩, ?_⟩ (fun i hi => ?_)
  · repeat' first
      | exact trivial | refine wl_ ?_ ?_ ?_ ?_ | refine And.intro ?_ ?_ | with_reducible rfl | exact ble_ | refine AV.int_congr ?_ | refine AV.list_congr ?_ | (apply rfl)
    simp
  by_cases hi' : i < l.length
  rotate_left
  · repeat' first
      | (conv => whnf
         first | refine Need.mk rfl ?_ | refine Fork.decN ?_ | refine LitO.own rfl ?_ | refine FinVal.keep ?_ | refine Final.mk ?_ rfl)
      | refine AV.int_congr ?_
    rw [← hi.2, List.drop_eq_nil_of_le (by omega)]; rfl
  have hd := findQ_drop (q := q) hi'
  rw [hi.2] at hd
  have hst := tFiring_le hi'
  have hc := hq (l.getD i default) (by omega)
  repeat' first
    | (conv => whnf
       first | refine Need.mk rfl ?_ | refine nb_ ?_ | refine Ix.mapN (fun _ => rfl) ?_ | refine Fork.decY ?_ | refine LitO.own rfl ?_)
  conv => whnf
  refine ACall.scal (.agg (oldL (tFiring.q (l.getD i default))) :: cs) _ hc rfl (SeesL.cons (SeesB.of0 ?_) (hcs _)) ?_
  · rw [Int.toNat_natCast]; exact @Sees0.oldagg (tFiring.q (l.getD i default))
  repeat' first
    | (conv => whnf
       first | refine Need.mk rfl ?_ | refine Fork.mk (fun _ => ?_) (fun _ => ?_) | refine Round.mk ?_ | refine LitO.own rfl ?_ | refine FinVal.keep ?_ | refine Final.mk ?_ rfl)
    | refine AV.int_congr ?_
  · rename_i h1
    rw [hd, if_pos h1]
  · rename_i h1
    refine ⟨i + 1, ⟨by omega, by rw [hd, if_neg (by rw [h1]; simp)]⟩, ?_, by omega⟩
    repeat' first
      | exact trivial | refine wl_ ?_ ?_ ?_ ?_ | refine And.intro ?_ ?_ | with_reducible rfl | exact ble_ | refine AV.int_congr ?_ | refine AV.list_congr ?_ | (apply rfl)
    rw [wrap64 (by omega) (by omega)]; rfl
theorem slContainsFuncQ.ret (q : VFiring → Bool) (F : Nat) (cs : List AV) (hcs : ∀ b, SeesL (SeesB b) cs cs) (l : List VFiring) (hq : ∀ x : VFiring, tFiring.size x ≤ 1048576 → Abs.Ret true Tryz.prog F (.agg (oldL (tFiring.q x)) :: cs) (.val (.bool (q x))) []) (h : tFirings.size l ≤ 1048576) :
    slContainsFuncG.Ret [.list none (rows tFiring l), .clo F [] cs] (.val (.bool (l.any q))) [] := by
  refine slContainsFuncG.ir.ofS rfl rfl ?_
  have hc := slIndexFuncQ.ret q F cs hcs l hq h
  skip
  conv => whnf
  refine ACall.scal _ _ hc rfl (SeesL.cons (SeesB.of0 ?_) (SeesL.cons ?_ SeesL.nil)) ?_
  · exact @Sees0.olds _ _
  · exact SeesB.clo SeesL.nil (hcs _)
  repeat' first
    | (conv => whnf
       first | refine Need.mk rfl ?_ | refine LitO.own rfl ?_ | refine FinVal.keep ?_ | refine Final.mk ?_ rfl)
    | refine AV.bool_congr ?_
  exact findQ_any q l 0 (Int.le_refl 0)
end Go.Proofs.YtiloafmpienmhaaGreat
namespace Go.Proofs.YtiloafmpienmhaaGreat
open Abs
def phasFirings.code : ACode := (q_ (r_ [s 1 (.box (t 0)), s 2 mf_]) (q_ (q_ (r_ [s 6 (f_ 3 1), s 7 (l_ 6), s 8 (.len false (t 7)), s 9 (.bin .gtr (t 8) (i_ 40))]) (.cond (t 9) (q_ (r_ [s 2 mf_]) .ret) .skip)) (q_ (q_ (r_ [s 10 (f_ 3 1), s 11 (l_ 10), s 12 (.len false (t 11)), s 13 (.mv (i_ 0))]) (.block 0 (.loop (q_ (r_ [s 14 (.bin .lss (t 13) (t 12))]) (q_ (.cond (t 14) .skip (.exit 0)) (q_ (.block 1 (q_ (r_ [v_ 15 13, s 16 (.iadr 2 (t 11) (t 13)), s 17 (a_ 2 16), s 4 (.alloc [(.string (.mk (.mk []))), (.slice none 0 0)]), v_ 3 15, ⟨none, none, (.store 2 (t 4) (t 17))⟩]) (q_ (r_ [s 18 (.clo 129 [] [t 4]), v_ 5 18]) (q_ (r_ [s 19 (a_ 6 1), s 20 (a_ 2 4), s 21 (.call 131 [t 19, t 20]), s 22 (.not (t 21)), v_ 23 22, g 23 false 24 (f_ 3 1), g 23 false 25 (l_ 24), g 23 false 26 (.mv (t 3)), g 23 false 27 (.slice false 2 (t 25) none (some (t 26))), g 23 false 28 (.mv (t 5)), g 23 false 29 (.call 132 [t 27, t 28]), s 30 (.or (t 23) (t 29))]) (.cond (t 30) (q_ (r_ [s 2 mf_]) .ret) .skip))))) (r_ [s 31 (.bin .add (t 13) (i_ 1)), v_ 13 31]))))))) (q_ (r_ [s 2 mt_]) .ret))))
theorem phasFirings.ir : IrAt Tryz.prog 77 phasFirings.code [0, 1, 2, 3, 4, 5, 11, 12, 13, 14] [.tmp 2] Tryz.f77.ntmps := ir_ Tryz.func77
abbrev phasFirings.Ret (args : List AV) (r : AV) (frs : Fr) : Prop := Abs.Ret true Tryz.prog 77 args r frs
def pmayHaveFired.code : ACode := (q_ (r_ [s 2 (.box (t 0)), s 3 (.box (t 1)), s 4 mf_]) (q_ (r_ [s 6 (f_ 0 2), s 7 (l_ 6), s 8 (f_ 0 3), s 9 (l_ 8), s 10 (.call 49 [t 7, t 9]), v_ 5 10]) (q_ (.region true [v_ 11 5, s 12 (.bin .geq (t 11) (i_ 0)), v_ 13 12, g 13 true 14 (f_ 1 3), g 13 true 15 (l_ 14), g 13 true 16 (.len false (t 15)), g 13 true 17 (f_ 0 2), g 13 true 18 (l_ 17), g 13 true 19 (.mv (t 5)), g 13 true 20 (.iadr 4 (t 18) (t 19)), g 13 true 21 (a_ 4 20), g 13 true 22 (.call 180 [t 21]), g 13 true 23 (.bin .eql (t 16) (t 22)), s 24 (.and (t 13) (t 23)), v_ 25 24, g 25 true 26 (f_ 1 3), g 25 true 27 (l_ 26), g 25 true 28 (.clo 182 [] [t 2]), g 25 true 29 (.call 181 [t 27, t 28]), s 30 (.and (t 25) (t 29)), v_ 4 30]) .ret)))
theorem pmayHaveFired.ir : IrAt Tryz.prog 131 pmayHaveFired.code [0, 1, 2, 3, 4, 5] [.tmp 4] Tryz.f131.ntmps := ir_ Tryz.func131
abbrev pmayHaveFired.Ret (args : List AV) (r : AV) (frs : Fr) : Prop := Abs.Ret true Tryz.prog 131 args r frs
def pmayClo10.code : ACode := (q_ (r_ [s 3 mf_]) (q_ (r_ [v_ 4 0, s 5 (.bin .leq (i_ 1) (t 4)), v_ 6 5, g 6 true 7 (.mv (t 0)), g 6 true 8 (f_ 2 1), g 6 true 9 (l_ 8), g 6 true 10 (.bin .leq (t 7) (t 9)), s 11 (.and (t 6) (t 10)), v_ 3 11]) .ret))
theorem pmayClo10.ir : IrAt Tryz.prog 182 pmayClo10.code [0, 1, 3] [.tmp 3] Tryz.f182.ntmps := ir_ Tryz.func182
abbrev pmayClo10.Ret (args : List AV) (r : AV) (frs : Fr) : Prop := Abs.Ret true Tryz.prog 182 args r frs
def phasClo10.code : ACode := (q_ (r_ [s 2 (.box (t 0)), s 3 mf_]) (q_ (r_ [s 4 (a_ 2 1), s 5 (a_ 2 2), s 6 (.call 130 [t 4, t 5]), v_ 3 6]) .ret))
theorem phasClo10.ir : IrAt Tryz.prog 129 phasClo10.code [0, 1, 2, 3] [.tmp 3] Tryz.f129.ntmps := ir_ Tryz.func129
abbrev phasClo10.Ret (args : List AV) (r : AV) (frs : Fr) : Prop := Abs.Ret true Tryz.prog 129 args r frs
end Go.Proofs.YtiloafmpienmhaaGreat
namespace Go.Proofs.YtiloafmpienmhaaGreat
open Abs Go.RowKit
def grF (l : List VStamp) : Int := l.foldl (fun m s => max m s.2) 0
theorem grF_succ {l : List VStamp} {i : Nat} (hi : i < l.length) : grF (l.take (i + 1)) = max (grF (l.take i)) (l.getD i default).2 := by
  rw [grF, take_succ' default hi, List.foldl_append]; rfl
theorem fold_le (c : Int) : ∀ (l : List VStamp) (m : Int), (decide (l.foldl (fun m s => max m s.2) m ≤ c)) = (decide (m ≤ c) && l.all fun s => decide (s.2 ≤ c))
  | [], m => by rw [List.all_nil, Bool.and_true]; rfl
  | s :: l, m => by
    rw [List.foldl_cons, fold_le c l, List.all_cons, ← Bool.and_assoc]
    congr 1
    rw [Bool.eq_iff_iff]; simp; omega
theorem pgreatestTime.ret (l : List VStamp) (h : tStamps.size l ≤ 1048576) : pgreatestTime.Ret [.list none (rows tStamp l)] (.val (.int .i64 (grF l))) [] := by
  refine pgreatestTime.ir.ofS rfl rfl ?_
  rw [tStamps_sz] at h
  skip
  refine ALoop.mk Nat (fun i => ⟨[(3, .val (.int .i64 (grF (l.take i)))), (6, .list none (rows tStamp l)), (7, .val (.int .i64 l.length)), (8, .val (.int .i64 i))], [], []⟩) (fun i => i ≤ l.length) (fun i => l.length - i) ⟨0, Nat.zero_le _, ?_⟩ (fun i hi => ?_)
  · repeat' first
      | exact trivial | refine wl_ ?_ ?_ ?_ ?_ | refine And.intro ?_ ?_ | with_reducible rfl | exact ble_ | refine AV.int_congr ?_ | refine AV.list_congr ?_ | (apply rfl)
    simp
  by_cases hi' : i < l.length
  rotate_left
  · repeat' first
      | (conv => whnf
         first | refine Need.mk rfl ?_ | refine Fork.decN ?_ | refine LitO.own rfl ?_ | refine FinVal.keep ?_ | refine Final.mk ?_ rfl)
      | refine AV.int_congr ?_
    rw [List.take_of_length_le (by omega)]
  have hs := grF_succ hi'
  repeat' first
    | (conv => whnf
       first | refine Need.mk rfl ?_ | refine Need.mk ⟨rfl, Nat.le_of_ble_eq_true rfl⟩ ?_ | refine nb_ ?_ | refine Ix.mapN (fun _ => rfl) ?_ | refine Fork.decY ?_ | refine Round.mk ?_ | refine LitO.own rfl ?_)
  refine ⟨i + 1, by omega, ?_, by omega⟩
  repeat' first
    | exact trivial | refine wr_ ?_ ?_ ?_ ?_ | refine And.intro ?_ ?_ | with_reducible rfl | exact ble_ | refine AV.int_congr ?_ | refine AV.list_congr ?_ | (apply rfl)
  · rw [hs, Int.toNat_natCast]
  · rw [wrap64 (by omega) (by omega)]; rfl
theorem ppresencesOf.ret (r : VRule) (h : tRule.size r ≤ 1048576) : ppresencesOf.Ret [.agg (oldL (tRule.q r))] (.val (.int .i64 (hasN r.2.2.1))) [] := by
  refine ppresencesOf.ir.ofS rfl rfl ?_
  rw [tRule_sz] at h
  skip
  refine ALoop.mk Nat (fun i => ⟨[(3, .val (.int .i64 ((hasN (r.2.2.1.take i) : Nat) : Int))), (7, .list none (rows tCond r.2.2.1)), (8, .val (.int .i64 r.2.2.1.length)), (9, .val (.int .i64 i))], [], []⟩) (fun i => i ≤ r.2.2.1.length) (fun i => r.2.2.1.length - i) ⟨0, Nat.zero_le _, ?_⟩ (fun i hi => ?_)
  · repeat' first
      | exact trivial | refine wr_ ?_ ?_ ?_ ?_ | refine And.intro ?_ ?_ | with_reducible rfl | exact ble_ | refine AV.int_congr ?_ | refine AV.list_congr ?_ | (apply rfl)
    simp
  have hl := hasN_le r.2.2.1 i
  by_cases hi' : i < r.2.2.1.length
  rotate_left
  · repeat' first
      | (conv => whnf
         first | refine Need.mk rfl ?_ | refine Fork.decN ?_ | refine LitO.own rfl ?_ | refine FinVal.keep ?_ | refine Final.mk ?_ rfl)
      | refine AV.int_congr ?_
    rw [List.take_of_length_le (by omega)]
  repeat' first
    | (conv => whnf
       first | refine Need.mk rfl ?_ | refine Need.mk ⟨rfl, Nat.le_of_ble_eq_true rfl⟩ ?_ | refine nb_ ?_ | refine Ix.mapN (fun _ => rfl) ?_ | refine Fork.decY ?_ | refine Fork.dec (fun _ => ?_) (fun _ => ?_) | refine Round.mk ?_ | refine LitO.own rfl ?_)
  · rename_i h1
    refine ⟨i + 1, by omega, ?_, by omega⟩
    repeat' first
      | exact trivial | refine wr_ ?_ ?_ ?_ ?_ | refine And.intro ?_ ?_ | with_reducible rfl | exact ble_ | refine AV.int_congr ?_ | refine AV.list_congr ?_ | (apply rfl)
    · rw [hasN_yes hi' (by simpa using h1), wrap64 (by omega) (by omega)]; rfl
    · rw [wrap64 (by omega) (by omega)]; rfl
  · rename_i h1
    refine ⟨i + 1, by omega, ?_, by omega⟩
    repeat' first
      | exact trivial | refine wr_ ?_ ?_ ?_ ?_ | refine And.intro ?_ ?_ | with_reducible rfl | exact ble_ | refine AV.int_congr ?_ | refine AV.list_congr ?_ | (apply rfl)
    · rw [hasN_no hi' (by simpa using h1)]
    · rw [wrap64 (by omega) (by omega)]; rfl
theorem pallI.ret (q : Int → Bool) (F : Nat) (cs : List AV) (hcs : ∀ b, SeesL (SeesB b) cs cs) (l : List Int) (hq : ∀ x : Int, Abs.Ret true Tryz.prog F (.val (.int .i64 x) :: cs) (.val (.bool (q x))) []) (h : l.length ≤ 4194304) :
    pallI.Ret [.list none (rows Ty.int l), .clo F [] cs] (.val (.bool (l.all q))) [] := by
  refine pallI.ir.of rfl ?_
  have hrl : (rows Ty.int l).length = l.length := length_rows _ _
  skip
  refine ALoop.mk Nat (fun i => ⟨[(1, .clo F [] cs), (7, .list none (rows Ty.int l)), (8, .val (.int .i64 l.length)), (9, .val (.int .i64 i))], [], []⟩) (fun i => i ≤ l.length ∧ (l.take i).all q = true) (fun i => l.length - i) ⟨0, ⟨Nat.zero_le _, rfl⟩, ?_⟩ (fun i hi => ?_)
  · repeat' first
      | exact trivial | refine wl_ ?_ ?_ ?_ ?_ | refine And.intro ?_ ?_ | with_reducible rfl | exact ble_ | refine AV.int_congr ?_ | refine AV.list_congr ?_ | (apply rfl)
    simp
  by_cases hi' : i < l.length
  rotate_left
  · have := hi.2
    rw [List.take_of_length_le (by omega)] at this
    repeat' first
      | (conv => whnf
         first | refine Need.mk rfl ?_ | refine Fork.decN ?_ | refine LitO.own rfl ?_ | refine FinVal.keep ?_ | refine Final.mk ?_ rfl)
      | refine AV.bool_congr ?_
    exact this.symm
  have hqi := hq (l.getD i default)
  repeat' first
    | (conv => whnf
       first | refine Need.mk rfl ?_ | refine Ix.mapN (fun _ => rfl) ?_ | refine Fork.decY ?_ | refine LitO.own rfl ?_)
  conv => whnf
  refine ACall.scal (.val (.int .i64 (l.getD i default)) :: cs) _ hqi rfl (.cons (SeesB.of0 (Sees0.val _)) (hcs _)) ?_
  repeat' first
    | (conv => whnf
       first | refine Need.mk rfl ?_ | refine Fork.neg (fun _ => ?_) (fun _ => ?_) | refine Round.mk ?_ | refine LitO.own rfl ?_ | refine FinVal.keep ?_ | refine Final.mk ?_ rfl)
    | refine AV.bool_congr ?_
  · rename_i h1
    exact (allD_no hi' h1).symm
  · rename_i h1
    refine ⟨i + 1, ⟨by omega, allD_succ hi' hi.2 h1⟩, ?_, by omega⟩
    repeat' first
      | exact trivial | refine wl_ ?_ ?_ ?_ ?_ | refine And.intro ?_ ?_ | with_reducible rfl | exact ble_ | refine AV.int_congr ?_ | refine AV.list_congr ?_ | (apply rfl)
    rw [wrap64 (by omega) (by omega)]; rfl
theorem pallE.ret (q : VEvent → Bool) (F : Nat) (l : List VEvent) (hq : ∀ x : VEvent, tEvent.size x ≤ 1048576 → Abs.Ret true Tryz.prog F [.agg (oldL (tEvent.q x))] (.val (.bool (q x))) []) (h : tEvents.size l ≤ 1048576) :
    pallE.Ret [.list none (rows tEvent l), .clo F [] []] (.val (.bool (l.all q))) [] := by
  refine pallE.ir.of rfl ?_
  rw [tEvents_sz] at h
  skip
  refine ALoop.mk Nat (fun i => ⟨[(1, .clo F [] []), (7, .list none (rows tEvent l)), (8, .val (.int .i64 l.length)), (9, .val (.int .i64 i))], [], []⟩) (fun i => i ≤ l.length ∧ (l.take i).all q = true) (fun i => l.length - i) ⟨0, ⟨Nat.zero_le _, rfl⟩, ?_⟩ (fun i hi => ?_)
  · repeat' first
      | exact trivial | refine wl_ ?_ ?_ ?_ ?_ | refine And.intro ?_ ?_ | with_reducible rfl | exact ble_ | refine AV.int_congr ?_ | refine AV.list_congr ?_ | (apply rfl)
    simp
  by_cases hi' : i < l.length
  rotate_left
  · have := hi.2
    rw [List.take_of_length_le (by omega)] at this
    repeat' first
      | (conv => whnf
         first | refine Need.mk rfl ?_ | refine Fork.decN ?_ | refine LitO.own rfl ?_ | refine FinVal.keep ?_ | refine Final.mk ?_ rfl)
      | refine AV.bool_congr ?_
    exact this.symm
  have hqi := hq (l.getD i default) (by have := tEvent_le hi'; omega)
  repeat' first
    | (conv => whnf
       first | refine Need.mk rfl ?_ | refine Need.mk ⟨rfl, Nat.le_of_ble_eq_true rfl⟩ ?_ | refine nb_ ?_ | refine Ix.mapN (fun _ => rfl) ?_ | refine Fork.decY ?_ | refine Fork.neg (fun _ => ?_) (fun _ => ?_) | refine Round.mk ?_ | refine LitO.own rfl ?_ | refine FinVal.keep ?_ | refine Final.mk ?_ rfl | refine ACall.scalA _ _ (hqi) rfl ?_)
    | refine AV.bool_congr ?_
  · rename_i h1
    exact (allD_no hi' h1).symm
  · rename_i h1
    refine ⟨i + 1, ⟨by omega, allD_succ hi' hi.2 h1⟩, ?_, by omega⟩
    repeat' first
      | exact trivial | refine wr_ ?_ ?_ ?_ ?_ | refine And.intro ?_ ?_ | with_reducible rfl | exact ble_ | refine AV.int_congr ?_ | refine AV.list_congr ?_ | (apply rfl)
    rw [wrap64 (by omega) (by omega)]; rfl
theorem pmayClo10.ret (t : Int) (e : VEngine) : pmayClo10.Ret [.val (.int .i64 t), .rptr (oldL (tEngine.q e))] (.val (.bool (decide (1 ≤ t) && decide (t ≤ e.2.2.1)))) [] := by
  refine pmayClo10.ir.of rfl ?_
  repeat' first
    | (conv => whnf
       first | refine Need.mk (fun h => h) ?_ | refine Need.mk rfl ?_ | refine LitO.own rfl ?_ | refine FinVal.keep ?_ | refine Final.mk rfl rfl)
mutual
theorem nrO : ∀ x : Tr, noRef (old x) = true
  | .v _ => rfl
  | .s _ => rfl
  | .l _ _ _ => rfl
  | .a fs => nrOL fs
  | .p fs => nrOL fs
theorem nrOL : ∀ xs : List Tr, noRef.noRefL (oldL xs) = true
  | [] => rfl
  | x :: xs => by
    show (noRef (old x) && noRef.noRefL (oldL xs)) = true
    rw [nrO x, nrOL xs]; rfl
end
theorem nrO_mem : ∀ (xs : List Tr), ∀ c ∈ oldL xs, noRef c = true
  | [], c, hc => by cases hc
  | x :: xs, c, hc => by
    rcases List.mem_cons.1 hc with rfl | h
    · exact nrO x
    · exact nrO_mem xs c h
theorem pmayHaveFired.ret (e : VEngine) (f : VFiring) (h : tEngine.size e ≤ 1048576) (hf : tFiring.size f ≤ 1048576) : pmayHaveFired.Ret [.agg (oldL (tEngine.q e)), .agg (oldL (tFiring.q f))] (.val (.bool (firOk e.1 e.2.2.1 f))) [] := by
  refine pmayHaveFired.ir.ofS rfl rfl ?_
  rw [tEngine_size] at h
  rw [tFiring_size, tInts_size] at hf
  have hF := pFindRule.ret e.1 f.1 (by omega)
  have hlt := (findR_lt9 e.1 f.1 0 (Int.le_refl 0)).1
  have hH := ppresencesOf.ret (e.1.getD (findR e.1 f.1 0).toNat default) (by have := rule_getD_le e.1 (findR e.1 f.1 0).toNat; omega)
  have hL := pallI.ret (fun t => decide (1 ≤ t) && decide (t ≤ e.2.2.1)) _ _ (fun b => SeesL.cons (SeesB.of0 (@Sees0.rptr9 (tEngine.q e))) SeesL.nil) f.2 (fun t => pmayClo10.ret t e) (by omega)
  have eI : (oldLL (f.2.map Ty.int.q)).length = f.2.length := by simp
  repeat' first
    | (conv => whnf
       first | refine Need.mk (fun h => h) ?_ | refine Need.mk rfl ?_ | refine nb_ ?_ | refine Need.mk ?_ ?_ | refine Ix.mapN (fun _ => rfl) ?_ | refine LitO.own rfl ?_ | refine ACall.scalA _ _ (hF) rfl ?_ | refine AQCall.mkA _ _ (fun hg => hH) rfl ?_)
  · exact ⟨rfl, rfl⟩
  conv => whnf
  refine AQCall.mk [.list none (rows Ty.int f.2), .clo 182 [] [.rptr (oldL (tEngine.q e))]] _ (fun _ => hL) rfl (fun _ => SeesL.cons (SeesB.of0 (Sees0.olds _ _)) (SeesL.cons ?_ SeesL.nil)) ?_
  · exact SeesB.clo SeesL.nil (SeesL.cons (SeesB.bptr (off := 0) rfl (sees_olds9 _ _) (nrO_mem _)) SeesL.nil)
  repeat' first
    | (conv => whnf
       first | refine Need.mk (fun h => h) ?_ | refine FinVal.keep ?_ | refine Final.mk ?_ rfl)
    | refine AV.bool_congr ?_
  rw [eI]; rfl
theorem phasClo10.ret (g f : VFiring) (h : tFiring.size f ≤ 1048576) : phasClo10.Ret [.agg (oldL (tFiring.q g)), .rptr (oldL (tFiring.q f))] (.val (.bool (decide (f = g)))) [] := by
  refine phasClo10.ir.ofS rfl rfl ?_
  have hc := psameFiring.ret f g h
  repeat' first
    | (conv => whnf
       first | refine nb_ ?_ | refine FinVal.keep ?_ | refine Final.mk rfl rfl | refine ACall.scalA _ _ (hc) rfl ?_)
theorem any_mem (x : VFiring) (l : List VFiring) : (l.any fun f => decide (x = f)) = decide (x ∈ l) := by
  rw [Bool.eq_iff_iff]; simp
theorem phasFirings.ret (e : VEngine) (h : tEngine.size e ≤ 1048576) : phasFirings.Ret [.agg (oldL (tEngine.q e))] (.val (.bool (decide ((e.2.2.2.1.length : Int) ≤ 40) && firsOk e.1 e.2.2.1 e.2.2.2.1))) [] := by
  refine phasFirings.ir.ofS rfl rfl ?_
  have hz := tEngine_size e
  have hs2 := tFirings_sz e.2.2.2.1
  by_cases h4 : (e.2.2.2.1.length : Int) ≤ 40
  rotate_left
  · rw [decide_eq_false h4, Bool.false_and]
    repeat' first
      | (conv => whnf
         first | refine Need.mk rfl ?_ | refine Fork.decY ?_ | refine LitO.own rfl ?_ | refine FinVal.keep ?_ | refine Final.mk rfl rfl)
  rw [decide_eq_true h4, Bool.true_and]
  repeat' first
    | (conv => whnf
       first | refine Need.mk rfl ?_ | refine Fork.decN ?_ | refine LitO.own rfl ?_)
  refine ALoop.mk Nat (fun i => ⟨[(1, .bptr 0 0), (11, .list none (rows tFiring e.2.2.2.1)), (12, .val (.int .i64 e.2.2.2.1.length)), (13, .val (.int .i64 i))], [.cells .var (oldL (tEngine.q e))], []⟩) (fun i => i ≤ e.2.2.2.1.length ∧ ∀ j, j < i → (firOk e.1 e.2.2.1 (e.2.2.2.1.getD j default) && !decide (e.2.2.2.1.getD j default ∈ e.2.2.2.1.take j)) = true) (fun i => e.2.2.2.1.length - i) ⟨0, ⟨Nat.zero_le _, fun j hj => absurd hj (Nat.not_lt_zero j)⟩, ?_⟩ (fun j hj => ?_)
  · repeat' first
      | exact trivial | refine wl_ ?_ ?_ ?_ ?_ | refine And.intro ?_ ?_ | with_reducible rfl | exact ble_ | refine AV.int_congr ?_ | refine AV.list_congr ?_ | (apply rfl)
    simp
  by_cases hj' : j < e.2.2.2.1.length
  rotate_left
  · have hfy := firs_yes (rs := e.1) (c := e.2.2.1) (l := e.2.2.2.1) fun k hk => hj.2 k (by omega)
    repeat' first
      | (conv => whnf
         first | refine Need.mk rfl ?_ | refine Fork.decN ?_ | refine LitO.own rfl ?_ | refine FinVal.keep ?_ | refine Final.mk ?_ rfl)
      | refine AV.bool_congr ?_
    exact hfy.symm
  have hc := tFiring_le hj'
  have hM := pmayHaveFired.ret e (e.2.2.2.1.getD j default) h (by omega)
  have hQ := slContainsFuncQ.ret (fun f => decide (e.2.2.2.1.getD j default = f)) _ _ (fun b => SeesL.cons (SeesB.of0 (@Sees0.rptr9 (tFiring.q (e.2.2.2.1.getD j default)))) SeesL.nil) (e.2.2.2.1.take j) (fun x _ => phasClo10.ret x (e.2.2.2.1.getD j default) (by omega)) (by rw [tFirings_sz]; have := listSize_take_le tFiring e.2.2.2.1 j; have h9 : (e.2.2.2.1.take j).length ≤ e.2.2.2.1.length := List.length_take_le' ..; omega)
  repeat' first
    | (conv => whnf
       first | refine Need.mk (fun h => h) ?_ | refine Need.mk rfl ?_ | refine Need.mk ⟨rfl, Nat.le_of_ble_eq_true rfl⟩ ?_ | refine nb_ ?_ | refine Need.mk ?_ ?_ | refine Ix.mapN (fun _ => rfl) ?_ | refine Cut.map (fun _ => rfl) ?_ ?_ | refine Fork.decY ?_ | refine LitO.own rfl ?_ | refine ACall.scalA _ _ (hM) rfl ?_)
  · exact ⟨rfl, rfl⟩
  · intro _; omega
  conv => whnf
  refine AGCall.scal (AQCall.mk [.list none (rows tFiring (e.2.2.2.1.take j)), .clo 129 [] [.rptr (oldL (tFiring.q (e.2.2.2.1.getD j default)))]] _ (fun _ => hQ) rfl (fun _ => SeesL.cons (SeesB.of0 ?_) (SeesL.cons ?_ SeesL.nil)) ?_)
  · show Sees0 (AV.list none (oldLL (List.map tFiring.q (List.take (j : Int).toNat e.2.2.2.1)))) _
    rw [Int.toNat_natCast]
    exact Sees0.olds _ _
  · refine SeesB.clo SeesL.nil (SeesL.cons (SeesB.bptr (off := 0) rfl ?_ ?_) SeesL.nil)
    · rw [Int.toNat_natCast]
      exact sees_olds9 _ (tFiring.q (e.2.2.2.1.getD j default))
    · exact nrO_mem (tFiring.q (e.2.2.2.1.getD j default))
  repeat' first
    | (conv => whnf
       first | refine Need.mk (fun h => h) ?_ | refine Need.mk rfl ?_ | refine Fork.mk (fun _ => ?_) (fun _ => ?_) | refine Round.mk ?_ | refine LitO.own rfl ?_ | refine FinVal.keep ?_ | refine Final.mk ?_ rfl)
    | refine AV.bool_congr ?_
  · rename_i h2
    rw [any_mem] at h2
    exact (firs_no hj' (by revert h2; cases firOk e.1 e.2.2.1 (e.2.2.2.1.getD j default) <;> cases decide (e.2.2.2.1.getD j default ∈ e.2.2.2.1.take j) <;> simp)).symm
  · rename_i h2
    rw [any_mem] at h2
    have h3 : (firOk e.1 e.2.2.1 (e.2.2.2.1.getD j default) && !decide (e.2.2.2.1.getD j default ∈ e.2.2.2.1.take j)) = true := by revert h2; cases firOk e.1 e.2.2.1 (e.2.2.2.1.getD j default) <;> cases decide (e.2.2.2.1.getD j default ∈ e.2.2.2.1.take j) <;> simp
    refine ⟨j + 1, ⟨by omega, fun k hk => ?_⟩, ?_, by omega⟩
    · rcases Nat.lt_or_eq_of_le (Nat.le_of_lt_succ hk) with h5 | h5
      · exact hj.2 k h5
      · subst h5; exact h3
    · repeat' first
        | exact trivial | refine wr_ ?_ ?_ ?_ ?_ | refine And.intro ?_ ?_ | with_reducible rfl | exact ble_ | refine AV.int_congr ?_ | refine AV.list_congr ?_ | (apply rfl)
      rw [wrap64 (by omega) (by omega)]; rfl
theorem pIsEngine.ret (e : VEngine) (h : tEngine.size e ≤ 1048576) : pIsEngine.Ret [.agg (oldL (tEngine.q e))] (.val (.bool (engF e))) [] := by
  refine pIsEngine.ir.ofS rfl rfl ?_
  have hz := tEngine_size e
  have hA := pAreRules.ret e.1 (by omega)
  have hM := pIsMemory.ret e.2.1 (by omega)
  have hG := pgreatestTime.ret e.2.1 (by omega)
  have hF := phasFirings.ret e h
  have hV := pallE.ret isEventF _ e.2.2.2.2.2 (fun x hx => pIsEvent.ret x hx) (by omega)
  have eL : (oldLL (e.2.2.2.2.2.map tEvent.q)).length = e.2.2.2.2.2.length := by simp
  repeat' first
    | (conv => whnf
       first | refine Need.mk (fun h => h) ?_ | refine Need.mk rfl ?_ | refine nb_ ?_ | refine LitO.own rfl ?_ | refine FinVal.keep ?_ | refine Final.mk ?_ rfl | refine AQCall.mkA _ _ (fun hg => hA) rfl ?_ | refine AQCall.mkA _ _ (fun hg => hM) rfl ?_ | refine AQCall.mkA _ _ (fun hg => hG) rfl ?_ | refine AQCall.mkA _ _ (fun hg => hF) rfl ?_ | refine AQCall.mkA _ _ (fun hg => hV) rfl ?_)
    | refine AV.bool_congr ?_
  rw [eL, show decide (grF e.2.1 ≤ e.2.2.1) = (decide (0 ≤ e.2.2.1) && e.2.1.all fun s => decide (s.2 ≤ e.2.2.1)) from fold_le e.2.2.1 e.2.1 0, engF]
  generalize areRF e.1 = b1
  generalize memF e.2.1 = b2
  generalize decide (0 ≤ e.2.2.1) = b3
  generalize (e.2.1.all fun s => decide (s.2 ≤ e.2.2.1)) = b4
  generalize decide (e.2.2.1 ≤ 200) = b5
  generalize decide ((e.2.2.2.1.length : Int) ≤ 40) = b6
  generalize firsOk e.1 e.2.2.1 e.2.2.2.1 = b7
  generalize decide ((e.2.2.2.2.2.length : Int) ≤ 500) = b8
  generalize e.2.2.2.2.2.all isEventF = b9
  cases b1 <;> cases b2 <;> cases b3 <;> cases b4 <;> cases b5 <;> cases b6 <;> cases b7 <;> cases b8 <;> rfl
end Go.Proofs.YtiloafmpienmhaaGreat
namespace Go.Proofs.YtiloafmpienmhaaGreat
open Abs
set_option maxRecDepth 20000 in
set_option maxHeartbeats 4000000 in
theorem lawExactIsEngine.of_ret (a0 : VEngine) (hb0 : tEngine.bd a0)
    (h : tEngine.size a0 ≤ 1048576 → ∃ (r0 : Bool), sIsEngine.Ret [.agg (oldL (tEngine.q a0))] (.val (.bool r0)) [] ∧ pIsEngine.Ret [.agg (oldL (tEngine.q a0))] (.val (.bool r0)) []) :
    lawExactIsEngine.Ret [.agg (oldL (tEngine.q a0))] (.val (.bool true)) [] := by
  refine lawExactIsEngine.ir.ofS rfl rfl ?_
  by_cases c1 : (1048576 : Int) < (tEngine.size a0 : Int)
  · have e0 : left 1048576 (tEngine.size a0) = -1 := by rw [left, if_pos (by omega)]
    repeat' first
      | (conv => whnf
         first | refine Need.mk rfl ?_ | refine nb_ ?_ | refine Fork.decYes (by omega) ?_ | refine LitO.own rfl ?_ | refine FinVal.keep ?_ | refine Final.mk rfl rfl | refine ACall.scalA _ _ (szEngine.ret _ _ ?_ ?_ ?_) rfl ?_)
    all_goals first
      | assumption
      | omega
  have e0 : left 1048576 (tEngine.size a0) = 1048576 - (tEngine.size a0 : Int) := by rw [left, if_neg (by omega)]
  obtain ⟨r0, hs, hp⟩ := h (by omega)
  repeat' first
    | (conv => whnf
       first | refine Need.mk rfl ?_ | refine Need.mk ⟨rfl, Nat.le_of_ble_eq_true rfl⟩ ?_ | refine nb_ ?_ | refine Fork.decNo (by omega) ?_ | refine Fork.neg (fun _ => ?_) (fun _ => ?_) | refine LitO.own rfl ?_ | refine FinVal.keep ?_ | refine Final.mk rfl rfl | refine Final.mk ?_ rfl | refine ACall.scalA _ _ (szEngine.ret _ _ ?_ ?_ ?_) rfl ?_ | refine ACall.scalA _ _ (hs) rfl ?_ | refine ACall.scalA _ _ (hp) rfl ?_ | refine ACall.oldA _ _ (toEngine.own _ ?_) ?_ | refine ACall.scalA _ _ (eqEngine.big _ _ ?_) rfl ?_)
    | refine AV.bool_congr ?_
  all_goals first
    | assumption
    | omega
    | contradiction
    | (rename_i hx; simp at hx; done)
    | (rename_i hx _; simp at hx; done)
end Go.Proofs.YtiloafmpienmhaaGreat
namespace Go.Proofs.YtiloafmpienmhaaGreat
open Abs
theorem lawExactIsEngine.ret (a0 : VEngine) (hb0 : tEngine.bd a0) : lawExactIsEngine.Ret [.agg (oldL (tEngine.q a0))] (.val (.bool true)) [] :=
  lawExactIsEngine.of_ret a0 hb0 fun h => ⟨_, sIsEngine.ret a0 h, pIsEngine.ret a0 h⟩
end Go.Proofs.YtiloafmpienmhaaGreat
namespace Go.Proofs.YtiloafmpienmhaaGreat
def headSigns : List Nat := [104, 97, 114, 110, 101, 115, 115, 32, 97, 100, 100, 51, 57, 99, 56, 53, 98, 98, 49, 55, 97, 57, 51, 53, 53, 50, 48, 50, 49, 51, 101, 52, 51, 52, 53, 97, 48, 99, 98, 52, 56, 97, 52, 101, 100, 57, 101, 101, 57, 54, 101, 55, 50, 52, 51, 53, 52, 100, 101, 54, 54, 53, 100, 52, 56, 52, 49, 50, 51, 102, 53, 97, 32, 99, 117, 116, 32, 97, 116, 32, 108, 111, 111, 112, 46, 101, 120, 97, 109, 112, 108, 101, 47, 103, 48, 51, 48, 49, 53, 47, 108, 97, 119, 115, 46, 70, 110, 69, 120, 97, 99, 116, 67, 104, 111, 105, 99, 101, 79, 102, 32, 108, 111, 111, 112, 46, 101, 120, 97, 109, 112, 108, 101, 47, 103, 48, 51, 48, 49, 53, 47, 108, 97, 119, 115, 46, 70, 110, 69, 120, 97, 99, 116, 73, 115, 69, 110, 103, 105, 110, 101, 32, 108, 111, 111, 112, 46, 101, 120, 97, 109, 112, 108, 101, 47, 103, 48, 51, 48, 49, 53, 47, 108, 97, 119, 115, 46, 70, 110, 69, 120, 97, 99, 116, 78, 101, 119, 69, 110, 103, 105, 110, 101]
theorem Abs.head : Tryz.prog.initOrder = String.ofList (headSigns.map Char.ofNat) := by kernel_rfl
theorem Abs.signs : Tryz.prog.initOrder.toList = headSigns.map Char.ofNat := by rw [Abs.head, String.toList_ofList]
def headWords : List (List Nat) := [[99, 117, 116], [97, 116], [108, 111, 111, 112, 46, 101, 120, 97, 109, 112, 108, 101, 47, 103, 48, 51, 48, 49, 53, 47, 108, 97, 119, 115, 46, 70, 110, 69, 120, 97, 99, 116, 67, 104, 111, 105, 99, 101, 79, 102], [108, 111, 111, 112, 46, 101, 120, 97, 109, 112, 108, 101, 47, 103, 48, 51, 48, 49, 53, 47, 108, 97, 119, 115, 46, 70, 110, 69, 120, 97, 99, 116, 73, 115, 69, 110, 103, 105, 110, 101], [108, 111, 111, 112, 46, 101, 120, 97, 109, 112, 108, 101, 47, 103, 48, 51, 48, 49, 53, 47, 108, 97, 119, 115, 46, 70, 110, 69, 120, 97, 99, 116, 78, 101, 119, 69, 110, 103, 105, 110, 101]]
theorem Abs.words : behindMainWord (wordsSigns (headSigns.map Char.ofNat)) = headWords.map fun w => w.map Char.ofNat := by kernel_rfl
theorem Abs.heads : behindMainWord (wordsSigns Tryz.prog.initOrder.toList) = headWords.map fun w => w.map Char.ofNat := by rw [Abs.signs, Abs.words]
theorem enters_gen (P : Program) (h : behindMainWord (wordsSigns P.initOrder.toList) = headWords.map fun w => w.map Char.ofNat) (h1 : P.laysLater = false) (h2 : P.bearsReflect = false) (h3 : P.doorFits [] = true) : P.mayEnter = true := by
  have h4 : stripLifts liftWords (headWords.map fun w => w.map Char.ofNat) = ([], headWords.map fun w => w.map Char.ofNat) := by kernel_rfl
  have h5 : (headWords.map fun w => w.map Char.ofNat) = (headWords.headD []).map Char.ofNat :: (headWords.tail.map fun w => w.map Char.ofNat) := rfl
  unfold Program.mayEnter
  rw [h, h1, h2, h5]
  simp only []
  rw [← h5, h4]
  simp only []
  rw [h3]
  rfl
theorem final_gen (P : Program) (h : behindMainWord (wordsSigns P.initOrder.toList) = headWords.map fun w => w.map Char.ofNat) : P.liftsFinal = false := by
  unfold Program.liftsFinal Program.headLifts
  rw [h]
  kernel_rfl
theorem made_gen (P : Program) (h : behindMainWord (wordsSigns P.initOrder.toList) = headWords.map fun w => w.map Char.ofNat) : P.make = some .cut := by
  unfold Program.make
  rw [h]
  rfl
theorem Abs.enters : Tryz.prog.mayEnter = true := enters_gen _ Abs.heads (by kernel_rfl) (by kernel_rfl) (by kernel_rfl)
theorem Abs.final : Tryz.prog.liftsFinal = false := final_gen _ Abs.heads
theorem Abs.made : Tryz.prog.make = some .cut := made_gen _ Abs.heads
theorem Abs.rowed : mapsRowed Tryz.prog = true := by kernel_rfl
theorem Abs.laidOut : laidOutB Tryz.prog = true := by kernel_rfl
def joinedLess (P : Program) (f : FuncId) (fn : Func) (s : ChangeSpec) (c : OpenClaim) (h1 : P.mayEnter = true) (h2 : P.liftsFinal = false) (h3 : P.make = some .cut) (h4 : mapsRowed P = true) (h5 : laidOutB P = true) : {b : Bool // joinedFacts P f fn s c = b} := by
  refine ⟨?b, ?h⟩
  case h =>
    unfold joinedFacts
    rw [h1, h2, h3, h4, h5]
theorem Abs.closed {f : FuncId} {fn : Func} {s : ChangeSpec} {c : OpenClaim} (h : (joinedLess Tryz.prog f fn s c Abs.enters Abs.final Abs.made Abs.rowed Abs.laidOut).1 = true) : joinedFacts Tryz.prog f fn s c = true :=
  (joinedLess Tryz.prog f fn s c Abs.enters Abs.final Abs.made Abs.rowed Abs.laidOut).2.trans h
end Go.Proofs.YtiloafmpienmhaaGreat
namespace Go.Proofs.YtiloafmpienmhaaGreat
namespace Abs
open Go.ChangeShapes Go.WideShapes Go.RowKit
def clF (P : Program) (g : TypeId → Option (List Cl)) : Nat → List Field → Option (List Cl)
  | _, [] => some []
  | off, f :: fs => match g f.type with
    | some cs => if f.offset = off ∧ cs.length = P.cellsOf f.type then
        (match clF P g (off + cs.length) fs with | some r => some (cs ++ r) | none => none) else none
    | none => none
def clOf (P : Program) : Nat → TypeId → Option (List Cl)
  | 0, _ => none
  | n + 1, t => match P.underlying t with
    | some .string => some [.str]
    | some .bool => some [.bool]
    | some (.int k) => some [.int k]
    | some (.slice e) => match clOf P n e with
      | some cs => if cs.length = P.cellsOf e ∧ 0 < P.cellsOf e then some [.sl e (P.cellsOf e) cs] else none
      | none => none
    | some (.struct fs) => match clF P (clOf P n) 0 fs.toList with
      | some cs => if cs.length = P.cellsOf t then some cs else none
      | none => none
    | _ => none
theorem Both.app {R : AV → Value → Prop} {xs ys : List AV} {us vs : List Value} (h : Both R xs us) (h' : Both R ys vs) : Both R (xs ++ ys) (us ++ vs) := by
  refine ⟨by simp [h.1, h'.1], fun i x v hx hv => ?_⟩
  rw [List.getElem?_append] at hx hv
  rw [h.1] at hx
  split at hx
  · rename_i hi; rw [if_pos hi] at hv; exact h.2 i x v hx hv
  · rename_i hi; rw [if_neg hi] at hv; exact h'.2 _ x v hx hv
def allF (w : World) (b : Nat) : Nat := match w.heap[b]? with | some (.cells c _ _) => c.size | _ => 0
theorem allF_out (w : World) (b : Nat) (h : w.heap.size ≤ b) : allF w b = 0 := by
  unfold allF; rw [Array.getElem?_eq_none h]
section
variable {H : Type} {enc : TypeId × Value → H} {P : Program} {w : World} {base : Nat} {spare : Nat → Bool} {held : Bool}
def Opens (B : Nat) (w : World) (cls : List Cl) (cs : List Value) : Prop :=
  ∃ trs, FitsL cls trs ∧ Both (Rep B w (allF w) [] [] []) (oldL trs) cs ∧ ∀ v ∈ cs, v.oneCell' = true
theorem Opens.one {B : Nat} {cl : Cl} {v : Value} (x : Tr) (h : FitsL [cl] [x]) (hr : Rep B w (allF w) [] [] [] (old x) v) (h1 : v.oneCell' = true) : Opens B w [cl] [v] :=
  ⟨[x], h, Both.cons.2 ⟨hr, rfl, by simp [oldL]⟩, by simp [h1]⟩
theorem open_fields {fuel : Nat} {cs : List Value} (B : Nat) (g : TypeId → Option (List Cl))
    (ih : ∀ t cs x cls, g t = some cls → DataW.trod enc P w base spare held fuel t cs = some x → Opens B w cls cs) :
    ∀ (fs : List Field) (off : Nat) (cls : List Cl), clF P g off fs = some cls → (∀ f ∈ fs, ∃ x, DataW.trod enc P w base spare held fuel f.type ((cs.drop f.offset).take (P.cellsOf f.type)) = some x) →
      Opens B w cls ((cs.drop off).take cls.length)
  | [], off, cls, h, _ => by
    simp only [clF, Option.some.injEq] at h
    subst h
    exact ⟨[], .nil, by simp [Both, oldL], by simp⟩
  | f :: fs, off, cls, h, hx => by
    unfold clF at h
    cases hg : g f.type with
    | none => rw [hg] at h; cases h
    | some c =>
      rw [hg] at h
      simp only at h
      split at h
      · rename_i hc
        obtain ⟨rfl, hc⟩ := hc
        cases hr : clF P g (f.offset + c.length) fs with
        | none => rw [hr] at h; cases h
        | some r =>
          rw [hr] at h
          simp only [Option.some.injEq] at h
          subst h
          obtain ⟨x, hx1⟩ := hx f (by simp)
          obtain ⟨t1, f1, b1, o1⟩ := ih _ _ _ _ hg hx1
          obtain ⟨t2, f2, b2, o2⟩ := open_fields B g ih fs _ r hr (fun f' hf' => hx f' (by simp [hf']))
          have hsplit : (cs.drop f.offset).take (c ++ r).length = (cs.drop f.offset).take c.length ++ (cs.drop (f.offset + c.length)).take r.length := by
            rw [List.length_append, List.take_add, List.drop_drop]
          rw [hsplit, hc]
          rw [hc] at b2 o2
          refine ⟨t1 ++ t2, f1.append f2, ?_, fun v hv => ?_⟩
          · rw [oldL_eq, List.map_append, ← oldL_eq, ← oldL_eq]; exact b1.app b2
          · rcases List.mem_append.1 hv with h | h
            · exact o1 v h
            · exact o2 v h
      · cases h
theorem open_cells (B : Nat) : ∀ (n fuel : Nat) (t : TypeId) (cs : List Value) (x : DataW H × List MemPlace) (cls : List Cl), clOf P n t = some cls → DataW.trod enc P w base spare held fuel t cs = some x → Opens B w cls cs
  | 0, _, _, _, _, _, h, _ => by cases h
  | n + 1, fuel, t, cs, x, cls, h, hx => by
    unfold clOf at h
    cases ht : P.underlying t with
    | none => rw [ht] at h; cases h
    | some u =>
      rw [ht] at h
      cases u with
      | string =>
        simp only [Option.some.injEq] at h; subst h
        obtain ⟨s, rfl, _, hs⟩ := DataW.trod_string ht hx
        exact Opens.one (.s s.data.toList) (.str _ hs .nil) (rep_string s) rfl
      | bool =>
        simp only [Option.some.injEq] at h; subst h
        cases fuel with
        | zero => simp [DataW.trod] at hx
        | succ m =>
          unfold DataW.trod at hx
          rw [ht] at hx
          split at hx <;> simp_all
          exact Opens.one (.v (.bool _)) (.bool _ .nil) (.val _) rfl
      | int k =>
        simp only [Option.some.injEq] at h; subst h
        obtain ⟨m, rfl, _, hm⟩ := DataW.trod_int ht hx
        exact Opens.one (.v (.int k m)) (.int _ _ hm .nil) (.val _) rfl
      | slice e =>
        simp only at h
        cases hc : clOf P n e with
        | none => rw [hc] at h; cases h
        | some c =>
          rw [hc] at h
          simp only at h
          split at h
          · rename_i hsz
            obtain ⟨hsz, hpos⟩ := hsz
            simp only [Option.some.injEq] at h; subst h
            rcases Go.Deep.open_slice ht hx with ⟨rfl, _⟩ | ⟨a, len, cap, m, k, D, Pl, rfl, _, hl, hm, hmm, _, hel⟩
            · refine Opens.one (.l e (P.cellsOf e) []) (.sl _ _ _ [] (Nat.zero_le _) hsz (by simp) .nil) ?_ rfl
              exact .list none [] none 0 0 0 0 (fun _ _ => undef) (Nat.le_refl _) (fun h => absurd rfl h) (by simp) (fun h => absurd rfl h) (by simp) (by simp) (fun k hk => by cases hk)
            · have hlm : len ≤ m := by rw [hmm]; split <;> omega
              obtain ⟨T, hT⟩ := Go.Deep.choose_lt (α := List Value × List Tr) (n := len) (p := fun i q => w.cells? base (a.add (i * P.cellsOf e)) (P.cellsOf e) = some q.1 ∧ FitsL c q.2 ∧
                  Both (Rep B w (allF w) [] [] []) (oldL q.2) q.1 ∧ ∀ v ∈ q.1, v.oneCell' = true) (fun i hi => by
                obtain ⟨cs', h1, h2⟩ := hel i (by omega)
                obtain ⟨trs, h3, h4, h5⟩ := open_cells B n k e cs' _ c hc h2
                exact ⟨(cs', trs), h1, h3, h4, h5⟩)
              have hlen : ((List.range len).map fun i => (T i).2).length = len := by simp
              refine Opens.one (.l e (P.cellsOf e) ((List.range len).map fun i => (T i).2)) (.sl _ _ _ _ (by rw [hlen]; omega) hsz (fun x hx => ?_) .nil) ?_ rfl
              · obtain ⟨i, hi, rfl⟩ := List.mem_map.1 hx
                exact (hT i (List.mem_range.1 hi)).2.1
              · have hol : (oldLL ((List.range len).map fun i => (T i).2)).length = len := by rw [length_oldLL, hlen]
                have hget : ∀ i e', (oldLL ((List.range len).map fun i => (T i).2))[i]? = some e' → i < len ∧ e' = oldL (T i).2 := by
                  intro i e' he
                  have hi : i < len := by have := getElem?_lt he; omega
                  rw [oldLL_eq] at he
                  simp [hi] at he
                  exact ⟨hi, by rw [oldL_eq]; exact he.symm⟩
                have hlenT : ∀ i, i < len → (oldL (T i).2).length = P.cellsOf e := fun i hi => by rw [oldL_eq, List.length_map, (hT i hi).2.1.length, hsz]
                have hcell : ∀ i j, i < len → j < P.cellsOf e → w.cell? ⟨a.block, a.off + i * P.cellsOf e + j, none⟩ = (T i).1[j]? ∧ a.spot = none := by
                  intro i j hi hj
                  obtain ⟨_, hl', hc'⟩ := World.cells?_some (hT i hi).1
                  have h0 : a.spot = none := by
                    obtain ⟨_, hl0, hc0⟩ := World.cells?_some (hT 0 (by omega)).1
                    have := hc0 0 hpos
                    rw [List.getElem?_eq_getElem (by omega)] at this
                    simp only [Nat.zero_mul, Addr.add, if_true] at this
                    unfold World.cell? at this
                    cases hs : a.spot with
                    | none => rfl
                    | some _ => rw [hs] at this; split at this <;> simp at this
                  refine ⟨?_, h0⟩
                  rw [← hc' j hj, Go.Deep.add_add]
                  unfold Addr.add
                  split
                  · rename_i hz
                    rw [show a.off + i * P.cellsOf e + j = a.off by omega]
                    cases a; simp only at h0; subst h0; rfl
                  · rw [Nat.add_assoc]
                have hrep := Rep.list (B := B) (w := w) (F := allF w) (tok := []) (fr := []) (box := []) none (oldLL ((List.range len).map fun i => (T i).2)) (some a) cap (P.cellsOf e) a.block a.off
                  (fun i j => (T i).1.getD j undef) (by rw [hol]; exact hl)
                  (fun hne => by
                    have : 0 < len := by
                      rcases Nat.eq_zero_or_pos len with h0 | h0
                      · subst h0; exact absurd rfl hne
                      · exact h0
                    have := (hcell 0 0 this hpos).2
                    cases a; simp only at this; subst this; rfl)
                  (fun e' he' => by
                    obtain ⟨i, hi⟩ := List.getElem?_of_mem he'
                    obtain ⟨h1, h2⟩ := hget i e' hi
                    rw [h2]; exact hlenT i h1)
                  (fun hne => by
                    have h0 : 0 < len := by
                      rcases Nat.eq_zero_or_pos len with h0 | h0
                      · subst h0; exact absurd rfl hne
                      · exact h0
                    rw [hol]
                    have hc := (hcell (len - 1) (P.cellsOf e - 1) (by omega) (by omega)).1
                    have hl1 : (T (len - 1)).1.length = P.cellsOf e := (World.cells?_some (hT (len - 1) (by omega)).1).2.1
                    rw [List.getElem?_eq_getElem (by omega)] at hc
                    unfold World.cell? at hc
                    unfold allF
                    simp only at hc
                    split at hc
                    · simp only [Option.isSome_none, Bool.false_eq_true, if_false] at hc
                      have hlt := (Array.getElem?_eq_some_iff.1 hc).1
                      have hmul : (len - 1) * P.cellsOf e + P.cellsOf e = len * P.cellsOf e := by
                        obtain ⟨q, rfl⟩ : ∃ q, len = q + 1 := ⟨len - 1, by omega⟩
                        rw [Nat.add_sub_cancel, Nat.add_mul]; omega
                      rename_i he
                      rw [he]
                      simp only
                      omega
                    · cases hc)
                  (fun i e' j c' hi hj => by
                    obtain ⟨h1, rfl⟩ := hget i e' hi
                    have hj' := getElem?_lt hj
                    rw [hlenT i h1] at hj'
                    have hl1 : (T i).1.length = P.cellsOf e := (World.cells?_some (hT i h1).1).2.1
                    have hg : (T i).1[j]? = some ((T i).1.getD j undef) := by simp [List.getD, hl1, hj']
                    exact ⟨by rw [(hcell i j h1 hj').1, hg], (hT i h1).2.2.2 _ (List.mem_of_getElem? hg)⟩)
                  (fun i e' j c' hi hj => by
                    obtain ⟨h1, rfl⟩ := hget i e' hi
                    have hj' := getElem?_lt hj
                    rw [hlenT i h1] at hj'
                    have hl1 : (T i).1.length = P.cellsOf e := (World.cells?_some (hT i h1).1).2.1
                    have hg : (T i).1[j]? = some ((T i).1.getD j undef) := by simp [List.getD, hl1, hj']
                    exact (hT i h1).2.2.1.2 j c' _ hj hg)
                  (fun k hk => by cases hk)
                rw [hol] at hrep
                exact hrep
          · cases h
      | struct fs =>
        simp only at h
        cases hc : clF P (clOf P n) 0 fs.toList with
        | none => rw [hc] at h; cases h
        | some c =>
          rw [hc] at h
          simp only at h
          split at h
          · rename_i hsz
            simp only [Option.some.injEq] at h; subst h
            obtain ⟨xs, m, rfl, _, hl, hfl, hel⟩ := DataW.trod_struct ht hx
            have := open_fields (fuel := m) (cs := cs) B (clOf P n) (fun t cs x cls h1 h2 => open_cells B n m t cs x cls h1 h2) fs.toList 0 c hc (fun f hf => by
              obtain ⟨i, hi⟩ := List.getElem?_of_mem hf
              have hi' : fs[i]? = some f := by simpa using hi
              have := hel i f hi'
              have hlt : i < xs.length := by have := getElem?_lt hi; simp at this; omega
              exact ⟨_, by rw [this, List.getElem?_eq_getElem hlt]⟩)
            rw [List.drop_zero, hsz, ← hl, List.take_length] at this
            exact this
          · cases h
      | _ => simp only at h; cases h
theorem open_argS {t : TypeId} {v : Value} {d : DataW H} {ps : List MemPlace} {r : Reach} {b0 : Nat} (B n : Nat) {cls : List Cl} (hc : clOf P n t = some cls) {fs : Array Field} (hs : P.underlying t = some (.struct fs)) (hval : Value.okWide P w r b0 t v)
    (h : DataW.Trod enc P w base spare held t v d ps) : ∃ xs, FitsL cls xs ∧ Rep B w (allF w) [] [] [] (old (.a xs)) v := by
  obtain ⟨fuel, h⟩ := h
  obtain ⟨trs, h1, h2, h3⟩ := open_cells B n fuel t _ _ _ hc h
  unfold Value.okWide at hval
  rw [hs] at hval
  obtain ⟨cs, rfl, _, _⟩ := hval
  refine ⟨trs, h1, ?_⟩
  have hg : ∀ i, i < cs.size → cs.toList[i]? = some (cs.getD i undef) := fun i hi => by simp [Array.getD, hi]
  have hl : (oldL trs).length = cs.size := by have := h2.1; simpa [Value.cells] using this
  exact .agg _ _ hl (fun i hi => h3 _ (List.mem_of_getElem? (hg i hi))) (fun i c hc => h2.2 i c _ hc (hg i (by have := getElem?_lt hc; omega)))
end
end Abs
end Go.Proofs.YtiloafmpienmhaaGreat
namespace Go.Proofs.YtiloafmpienmhaaGreat
namespace Abs
variable {mo : Bool}
open Go.ChangeShapes Go.WideShapes Go.ChangeAt Go.RowKit
section
variable {H : Type} {enc : TypeId × Value → H} {P : Program}
theorem trodAll_stays {base : Nat} (hl : laidOutB P = true) {W W' : World} {sp' : Nat → Bool} : ∀ {ts : List TypeId} {vs : List Value} {ds : List (DataW H)} {ps : List MemPlace},
    (∀ t ∈ ts, P.readableRec t = true ∧ t < P.types.size) → DataW.TrodAll enc P W base (fun _ => true) true ts vs ds ps → (∀ p ∈ ps, W.sameAt W' p) → (∀ p ∈ ps, sp' p.block = true) →
    DataW.TrodAll enc P W' base sp' true ts vs ds ps
  | [], [], [], _, _, h, _, _ => h
  | t :: ts, v :: vs, d :: ds, _, ht, h, hs, hp => by
    obtain ⟨p, q, h1, h2, rfl⟩ := h
    exact ⟨p, q, WideElems.Trod_stays hl (ht t (by simp)).1 (ht t (by simp)).2 h1 (fun x hx => hs x (by simp [hx])) (fun x hx => hp x (by simp [hx])),
      trodAll_stays hl (fun t h => ht t (by simp [h])) h2 (fun x hx => hs x (by simp [hx])) (fun x hx => hp x (by simp [hx])), rfl⟩
theorem law_post {f : Func} {s : ChangeSpec} {apart fresh handsOn again : Bool} {W W' : World} {args : Array Value} {ds gs : List (DataW H)} {before : List MemPlace} {tb : TypeId}
    (hl : laidOutB P = true) (hv : s.vars = []) (hp : ∀ t ∈ f.params.toList, P.readableRec t = true ∧ t < P.types.size) (hr : f.resultTypes = #[tb]) (htb : P.underlying tb = some .bool)
    (hW : DataW.Whole enc P f.params.toList s.vars apart W args.toList ds gs before) (hb : Bel mo W.heap.size W W')
    (hfn : s.fn H (ds ++ gs) = { results := [.lit (.bool true)], args := ds }) : s.post enc P f apart fresh handsOn again W args (.bool true) W' := by
  have hlt : ∀ p ∈ before, p.block < W.heap.size := fun p hp => hW.lt p hp
  have hW' := hW
  obtain ⟨p, q, hA, hV, hpq, hz, hn⟩ := hW
  rw [hv] at hV
  obtain ⟨hg, hq⟩ : gs = [] ∧ q = [] := trodVars_none hV
  subst hg; subst hq
  simp only [List.append_nil] at hpq hfn hz hn
  subst hpq
  have hargs : ∀ sp : Nat → Bool, (∀ x ∈ before, sp x.block = true) → DataW.TrodAll enc P W' 0 sp true f.params.toList args.toList ds before :=
    fun sp hsp => trodAll_stays hl hp hA (fun x hx => hb.same (hlt x hx)) hsp
  have hres : ∀ (b : Nat) (sp : Nat → Bool) (hd : Bool), DataW.TrodAll enc P W' b sp hd f.resultTypes.toList ((Value.bool true).resultList f.resultTypes.size) [.lit (.bool true)] [] := fun b sp hd => by
    rw [hr]
    exact trodAll_mk1 (shut_bool htb true)
  have hvars : ∀ sp : Nat → Bool, DataW.TrodVars enc P W' sp s.vars [] [] := fun sp => by rw [hv]; rfl
  have hfn' : s.fn H (ds ++ []) = { results := [.lit (.bool true)], args := ds } := by rw [List.append_nil]; exact hfn
  refine ⟨ds, [], before, [], before, [], hW', by rw [hfn']; exact hres _ _ _, by rw [hfn']; exact hargs _ (fun x hx => by simpa using hlt x hx), by rw [hfn']; exact hvars _, hb.frame _, fun _ => ?_⟩
  refine ⟨ok_one hr rfl (okWide_bool_mk htb true), _, _, ([] ++ before) ++ [], ⟨[] ++ before, [], trodAll_append (hargs _ (fun _ _ => rfl)) (hres _ _ _), hvars _, rfl, ?_, ?_⟩, ?_⟩
  · intro b off hp'
    have hm : MemPlace.cell b off ∈ before := by simpa using hp'
    rw [hb.frozen (hlt _ hm)]
    exact hz b off hm
  · intro ha
    simpa using hn ha
  · intro x hx _
    simpa using hx
end
theorem law_ret {P : Program} {fid : Nat} {avs : List AV} {args : Array Value} {W : World} (h : Ret mo P fid avs (.val (.bool true)) []) (hc : CondB W []) (hB : Both (Rep W.heap.size W (allF W) [] [] []) avs args.toList) :
    Calls P fid args W fun e w' => e = .returned (.bool true) ∧ Bel mo W.heap.size W w' := by
  rw [Ret_eq] at h
  obtain ⟨_, hR⟩ := h
  refine (hR W (allF W) args hc (fun b hb => allF_out W b hb) hB).mono ?_
  rintro e W' ⟨v, F', tok, box, rfl, hb, _, _, _, _, _, hrep⟩
  cases hrep
  exact ⟨rfl, hb⟩
theorem both_nil {R : AV → Value → Prop} : Both R [] [] := ⟨rfl, by simp⟩
end Abs
theorem Abs.own : ownKnob Tryz.prog.godebug = none := by kernel_rfl
end Go.Proofs.YtiloafmpienmhaaGreat
