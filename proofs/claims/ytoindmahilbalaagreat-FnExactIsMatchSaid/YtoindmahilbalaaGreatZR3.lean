/-
  What stands below some laws' proofs, part 3: contracts of functions, by an evaluator.
-/
import Derived.Test.YtoindmahilbalaaGreatZR2
namespace Go.Proofs.YtoindmahilbalaaGreat
open Abs
def lessF (a b : Str) : Bool := (parseF a).2 && (parseF b).2 && decide ((parseF a).1 < (parseF b).1)
theorem less_cmp (a b : Str) : ((parseF a).2 && (parseF b).2 && decide (cmpA a b < 0)) = lessF a b := by
  unfold lessF cmpA
  cases ha : (parseF a).2 <;> cases hb : (parseF b).2 <;> simp
  unfold icmp
  split
  · rename_i h; simp [h]
  · split
    · rename_i h; simp [h]
    · rename_i h _; simp; omega
theorem valF_len (b : List VPair) (t : Str) (h : tPairs.size b ≤ 1048576) (ht : t.length ≤ 1048576) : (valF b t).1.length ≤ 1048576 := by
  rw [tPairs_sz] at h
  unfold valF
  split
  · exact ht
  split
  · cases hl : lookV b t with
    | none => simp
    | some v =>
      have : v.length ≤ listSize tPair b := by
        clear h
        induction b with
        | nil => cases hl
        | cons p b ih =>
          rw [lookV] at hl
          have e : listSize tPair (p :: b) = (p.1.length + p.2.length) + listSize tPair b := rfl
          split at hl
          · cases hl; omega
          · have := ih hl; omega
      simp; omega
  · simp
def opF (k : Int) (a b : Str) : Bool := if k = 3 then a == b else if k = 4 then !(a == b) else lessF a b
def holdsTF (x : VCond) (b : List VPair) : Bool := isTestF x && bindF b && (valF b x.2.2.1).2 && (valF b x.2.2.2).2 && opF x.1 (valF b x.2.2.1).1 (valF b x.2.2.2).1
theorem holds_no1 {x : VCond} {b : List VPair} (h : (!isTestF x || !bindF b) = true) : false = holdsTF x b := by
  unfold holdsTF; revert h; cases isTestF x <;> cases bindF b <;> simp
theorem holds_no2 {x : VCond} {b : List VPair} (h : (!(valF b x.2.2.1).2 || !(valF b x.2.2.2).2) = true) : false = holdsTF x b := by
  unfold holdsTF; revert h; cases (valF b x.2.2.1).2 <;> cases (valF b x.2.2.2).2 <;> simp
theorem holds_at {x : VCond} {b : List VPair} (h : (!isTestF x || !bindF b) = false) (h' : (!(valF b x.2.2.1).2 || !(valF b x.2.2.2).2) = false) : opF x.1 (valF b x.2.2.1).1 (valF b x.2.2.2).1 = holdsTF x b := by
  unfold holdsTF; revert h h'; cases isTestF x <;> cases bindF b <;> cases (valF b x.2.2.1).2 <;> cases (valF b x.2.2.2).2 <;> simp
theorem sHoldsTest.ret (x : VCond) (b : List VPair) (h : tCond.size x ≤ 1048576) (hb : tPairs.size b ≤ 1048576) : sHoldsTest.Ret [.agg (oldL (tCond.q x)), .list none (pairs b)] (.val (.bool (holdsTF x b))) [] := by
  refine sHoldsTest.ir.ofS rfl rfl ?_
  have hz := tCond_sz x
  have hl : x.2.2.1.length ≤ 1048576 := by omega
  have hr : x.2.2.2.length ≤ 1048576 := by omega
  have hvl := valF_len b _ hb hl
  have hvr := valF_len b _ hb hr
  repeat' first
    | (conv => whnf
       first | refine Need.mk (fun h => h) ?_ | refine Need.mk rfl ?_ | refine nb_ ?_ | refine Fork.dec (fun _ => ?_) (fun _ => ?_) | refine Fork.mk (fun _ => ?_) (fun _ => ?_) | refine FinVal.keep ?_ | refine Final.mk ?_ rfl | refine ACall.scalA _ _ (sIsTest.ret _ ?_) rfl ?_ | refine AGCall.mkA _ _ (fun hg => sIsBinding.ret _ ?_) rfl ?_ | refine ACall.scalA _ _ (sValueOf.ret _ _ ?_ ?_) rfl ?_ | refine ACall.scalA _ _ (sIsNumber.ret _ ?_) rfl ?_ | refine AGCall.mkA _ _ (fun hg => sIsNumber.ret _ ?_) rfl ?_ | refine AGCall.mkA _ _ (fun hg => sCompareAtoms.ret _ _ ?_ ?_) rfl ?_)
    | refine AV.bool_congr ?_
  all_goals first
    | assumption
    | exact holds_no1 (by assumption)
    | exact holds_no2 (by assumption)
    | (rw [← holds_at (by assumption) (by assumption), opF, if_pos (by assumption)])
    | (rw [← holds_at (by assumption) (by assumption), opF, if_neg (by assumption), if_pos (by assumption)])
    | (rw [← holds_at (by assumption) (by assumption), opF, if_neg (by assumption), if_neg (by assumption), less_cmp])
theorem pcmp1.ret (a b : Str) : pcmp1.Ret [.str a, .str b] (.val (.bool (a == b))) [] := by
  refine pcmp1.ir.of rfl ?_
  repeat' first
    | (conv => whnf
       first | refine FinVal.keep ?_ | refine Final.mk rfl rfl)
theorem pcmp2.ret (a b : Str) : pcmp2.Ret [.str a, .str b] (.val (.bool (!(a == b)))) [] := by
  refine pcmp2.ir.of rfl ?_
  repeat' first
    | (conv => whnf
       first | refine FinVal.keep ?_ | refine Final.mk rfl rfl)
theorem pisLessNumber.ret (a b : Str) (ha : a.length ≤ 1048576) (hb : b.length ≤ 1048576) : pisLessNumber.Ret [.str a, .str b] (.val (.bool (lessF a b))) [] := by
  refine pisLessNumber.ir.of rfl ?_
  repeat' first
    | (conv => whnf
       first | refine Need.mk (fun h => h) ?_ | refine Need.mk rfl ?_ | refine FinVal.keep ?_ | refine Final.mk rfl rfl | refine ACall.scalA _ _ (pParseInt.ret _ ?_) rfl ?_)
  all_goals first
    | assumption
    | rfl
theorem test_kind {x : VCond} {b : List VPair} (h : (!isTestF x || !bindF b) = false) : x.1 = 3 ∨ x.1 = 4 ∨ x.1 = 5 := by
  have h1 : isTestF x = true := by revert h; cases isTestF x <;> simp
  unfold isTestF at h1
  rw [Bool.and_eq_true] at h1
  have h2 := h1.1
  simp only [testKind, Bool.or_eq_true, beq_iff_eq] at h2
  omega
theorem pHoldsTest.ret (x : VCond) (b : List VPair) (h : tCond.size x ≤ 1048576) (hb : tPairs.size b ≤ 1048576) : pHoldsTest.Ret [.agg (oldL (tCond.q x)), .list none (pairs b)] (.val (.bool (holdsTF x b))) [] := by
  refine pHoldsTest.ir.ofS rfl rfl ?_
  have hz := tCond_sz x
  have hl : x.2.2.1.length ≤ 1048576 := by omega
  have hr : x.2.2.2.length ≤ 1048576 := by omega
  have hvl := valF_len b _ hb hl
  have hvr := valF_len b _ hb hr
  by_cases hno : (!isTestF x || !bindF b) = true
  · repeat' first
      | (conv => whnf
         first | refine Need.mk (fun h => h) ?_ | refine nb_ ?_ | refine Fork.yes (by assumption) ?_ | refine FinVal.keep ?_ | refine Final.mk ?_ rfl | refine ACall.scalA _ _ (pIsTest.ret _ ?_) rfl ?_ | refine AGCall.mkA _ _ (fun hg => pIsBinding.ret _ ?_) rfl ?_)
      | refine AV.bool_congr ?_
    all_goals first
      | assumption
      | exact holds_no1 (by assumption)
      | contradiction
  have hyes : (!isTestF x || !bindF b) = false := by simpa using hno
  by_cases hno2 : (!(valF b x.2.2.1).2 || !(valF b x.2.2.2).2) = true
  · repeat' first
      | (conv => whnf
         first | refine Need.mk (fun h => h) ?_ | refine nb_ ?_ | refine Fork.yes (by assumption) ?_ | refine Fork.no (by assumption) ?_ | refine FinVal.keep ?_ | refine Final.mk ?_ rfl | refine ACall.scalA _ _ (pIsTest.ret _ ?_) rfl ?_ | refine AGCall.mkA _ _ (fun hg => pIsBinding.ret _ ?_) rfl ?_ | refine ACall.scalA _ _ (pValueOf.ret _ _ ?_ ?_) rfl ?_)
      | refine AV.bool_congr ?_
    all_goals first
      | assumption
      | exact holds_no1 (by assumption)
      | exact holds_no2 (by assumption)
      | contradiction
  have hyes2 : (!(valF b x.2.2.1).2 || !(valF b x.2.2.2).2) = false := by simpa using hno2
  rcases test_kind hyes with hk | hk | hk
  · have hc : pcomparisonOf.Ret [.val (.int .i64 x.1)] (.tup [.agg [.val (.int .i64 3), .str [61], .clo 224 [] []], .val (.bool true)]) [(189, 3, 3)] := by rw [hk]; exact cmp3
    repeat' first
      | (conv => whnf
         first | refine Need.mk (fun h => h) ?_ | refine Need.mk ⟨rfl, Nat.le_of_ble_eq_true rfl⟩ ?_ | refine nb_ ?_ | refine Fork.no (by assumption) ?_ | refine FinVal.keep ?_ | refine Final.mk ?_ rfl | refine ACall.scalA _ _ (pIsTest.ret _ ?_) rfl ?_ | refine AGCall.mkA _ _ (fun hg => pIsBinding.ret _ ?_) rfl ?_ | refine ACall.scalA _ _ (pValueOf.ret _ _ ?_ ?_) rfl ?_ | refine ACall.mkR _ _ _ (hc) ?_ | refine ACall.scalA _ _ (pcmp1.ret _ _) rfl ?_)
      | refine AV.bool_congr ?_
    all_goals first
      | assumption
      | contradiction
      | (rw [← holds_at hyes hyes2, opF, if_pos hk])
  · have hc : pcomparisonOf.Ret [.val (.int .i64 x.1)] (.tup [.agg [.val (.int .i64 4), .str [33, 61], .clo 225 [] []], .val (.bool true)]) [(189, 3, 3)] := by rw [hk]; exact cmp4
    repeat' first
      | (conv => whnf
         first | refine Need.mk (fun h => h) ?_ | refine Need.mk ⟨rfl, Nat.le_of_ble_eq_true rfl⟩ ?_ | refine nb_ ?_ | refine Fork.no (by assumption) ?_ | refine FinVal.keep ?_ | refine Final.mk ?_ rfl | refine ACall.scalA _ _ (pIsTest.ret _ ?_) rfl ?_ | refine AGCall.mkA _ _ (fun hg => pIsBinding.ret _ ?_) rfl ?_ | refine ACall.scalA _ _ (pValueOf.ret _ _ ?_ ?_) rfl ?_ | refine ACall.mkR _ _ _ (hc) ?_ | refine ACall.scalA _ _ (pcmp2.ret _ _) rfl ?_)
      | refine AV.bool_congr ?_
    all_goals first
      | assumption
      | contradiction
      | (rw [← holds_at hyes hyes2, opF, if_neg (by omega), if_pos hk])
  · have hc : pcomparisonOf.Ret [.val (.int .i64 x.1)] (.tup [.agg [.val (.int .i64 5), .str [60], .clo 226 [] []], .val (.bool true)]) [(189, 3, 3)] := by rw [hk]; exact cmp5
    repeat' first
      | (conv => whnf
         first | refine Need.mk (fun h => h) ?_ | refine Need.mk ⟨rfl, Nat.le_of_ble_eq_true rfl⟩ ?_ | refine nb_ ?_ | refine Fork.no (by assumption) ?_ | refine FinVal.keep ?_ | refine Final.mk ?_ rfl | refine ACall.scalA _ _ (pIsTest.ret _ ?_) rfl ?_ | refine AGCall.mkA _ _ (fun hg => pIsBinding.ret _ ?_) rfl ?_ | refine ACall.scalA _ _ (pValueOf.ret _ _ ?_ ?_) rfl ?_ | refine ACall.mkR _ _ _ (hc) ?_ | refine ACall.scalA _ _ (pisLessNumber.ret _ _ ?_ ?_) rfl ?_)
      | refine AV.bool_congr ?_
    all_goals first
      | assumption
      | contradiction
      | (rw [← holds_at hyes hyes2, opF, if_neg (by omega), if_neg (by omega)])
end Go.Proofs.YtoindmahilbalaaGreat
namespace Go.Proofs.YtoindmahilbalaaGreat
open Abs
def fctsT (l : List Fct) : Tr := .l 86 2 (l.map tFct.q)
end Go.Proofs.YtoindmahilbalaaGreat
namespace Go.Proofs.YtoindmahilbalaaGreat
open Abs
theorem sTexts.ret (l : List Str) (h : l.length ≤ 1048576) : sTexts.Ret [.list none (strs l)] (.list (some 0) (strs l)) [(9, 1, l.length)] := by
  refine sTexts.ir.of rfl ?_
  repeat' first
    | (conv => whnf
       first | refine Need.mk rfl ?_ | refine Need.mk ?_ ?_ | refine Final.mk ?_ ?_)
    | refine AV.list_congr ?_ | refine fr1 ?_
  · exact strs_sz l
  · simp; omega
  · rfl
  · simp
theorem slClone.ret (l : List Str) (h : l.length ≤ 1048576) : slClone.Ret [.list none (strs l)] (.list (some 0) (strs l)) [(9, 1, l.length)] := by
  refine slClone.ir.of rfl ?_
  repeat' first
    | (conv => whnf
       first | refine Need.mk rfl ?_ | refine Need.mk ?_ ?_ | refine Fork.neg (fun _ => ?_) (fun _ => ?_) | refine NilQ.mk (fun b hb => ?_) | refine FinVal.nil 9 1 rfl ?_ | refine Final.mk ?_ ?_)
    | refine AV.list_congr ?_ | refine fr1 ?_
  · rename_i h1
    have hl : l = [] := List.eq_nil_of_length_eq_zero (by rw [length_strs] at hb; exact hb (by revert h1; cases b <;> simp))
    subst hl; rfl
  · rename_i h1
    have hl : l = [] := List.eq_nil_of_length_eq_zero (by rw [length_strs] at hb; exact hb (by revert h1; cases b <;> simp))
    subst hl; rfl
  · exact strs_sz l
  · simp; omega
  · rfl
  · simp
theorem sCopy.ret (f : Fct) (h : tFct.size f ≤ 1048576) : sCopy.Ret [.agg (oldL (tFct.q f))] (.agg (tFct.tk f 0)) (tFct.fr f) := by
  refine sCopy.ir.of rfl ?_
  rw [tFct_size, tStrs_size] at h
  repeat' first
    | (conv => whnf
       first | refine Need.mk rfl ?_ | refine Need.mk ⟨rfl, Nat.le_of_ble_eq_true rfl⟩ ?_ | refine nb_ ?_ | refine FinAgg.keep ?_ | refine Final.mk rfl rfl | refine ACall.mkStrs _ _ (sTexts.ret _ ?_) (by repeat' first | exact SeesL.nil | refine SeesL.cons ?_ ?_ | exact SeesB.of0 (Sees0.val _) | exact SeesB.of0 (Sees0.str _) | exact SeesB.of0 (Sees0.olds _ _) | exact SeesB.of0 (Sees0.old _) | exact SeesB.of0 (Sees0.oldagg _) | exact SeesB.of0 Sees0.nil | exact Sees0.val _ | exact Sees0.str _ | exact Sees0.olds _ _ | exact Sees0.old _ | exact Sees0.oldagg _ | exact Sees0.nil | exact SeesB.of0 (Sees0.any _) | assumption | exact sees_gv _ _ _ (by assumption) (by first | assumption | exact BoxIn.last _ _ | exact BoxIn.more (BoxIn.last _ _) _) | refine SeesB.agg ?_ | refine Sees0.agg ?_ | exact SeesB.of0 (Sees0.clo SeesL.nil SeesL.nil) | exact Sees0.clo SeesL.nil SeesL.nil | exact SeesB.of0 (Sees0.list rfl) | exact Sees0.list rfl) ?_)
  omega
theorem pcopyFact.ret (f : Fct) (h : tFct.size f ≤ 1048576) : pcopyFact.Ret [.agg (oldL (tFct.q f))] (.agg (tFct.tk f 0)) (tFct.fr f) := by
  refine pcopyFact.ir.of rfl ?_
  rw [tFct_size, tStrs_size] at h
  repeat' first
    | (conv => whnf
       first | refine Need.mk rfl ?_ | refine Need.mk ⟨rfl, Nat.le_of_ble_eq_true rfl⟩ ?_ | refine nb_ ?_ | refine FinAgg.keep ?_ | refine Final.mk rfl rfl | refine ACall.mkStrs _ _ (slClone.ret _ ?_) (by repeat' first | exact SeesL.nil | refine SeesL.cons ?_ ?_ | exact SeesB.of0 (Sees0.val _) | exact SeesB.of0 (Sees0.str _) | exact SeesB.of0 (Sees0.olds _ _) | exact SeesB.of0 (Sees0.old _) | exact SeesB.of0 (Sees0.oldagg _) | exact SeesB.of0 Sees0.nil | exact Sees0.val _ | exact Sees0.str _ | exact Sees0.olds _ _ | exact Sees0.old _ | exact Sees0.oldagg _ | exact Sees0.nil | exact SeesB.of0 (Sees0.any _) | assumption | exact sees_gv _ _ _ (by assumption) (by first | assumption | exact BoxIn.last _ _ | exact BoxIn.more (BoxIn.last _ _) _) | refine SeesB.agg ?_ | refine Sees0.agg ?_ | exact SeesB.of0 (Sees0.clo SeesL.nil SeesL.nil) | exact Sees0.clo SeesL.nil SeesL.nil | exact SeesB.of0 (Sees0.list rfl) | exact Sees0.list rfl) ?_)
  omega
def accFr (l : List Fct) : Fr := (86, 2, l.length) :: frs tFct l
theorem accFr_snoc (l : List Fct) (f : Fct) : (accFr l ++ tFct.fr f).set 0 (86, 2, l.length + 1) = accFr (l ++ [f]) := by
  simp [accFr, frs]
theorem acc_snoc (l : List Fct) (f : Fct) : tks tFct l 1 ++ [tFct.tk f (accFr l).length] = tks tFct (l ++ [f]) 1 := by
  rw [tks_append]
  congr 1
  show _ = [tFct.tk f _]
  rw [accFr, List.length_cons, Nat.add_comm]
theorem acc_own {mo : Bool} {P : Program} {f : Nat} {args : List AV} {l : List Fct} (h : Ret mo P f args (.list (some 0) (tks tFct l 1)) (accFr l)) : Own mo P f args (.l 86 2 (l.map tFct.q)) := by
  obtain ⟨ts, h1, p1⟩ := tks_own tFct (accFr l) l 1 (fun i x hi => by rw [accFr, Nat.add_comm, List.getElem?_cons_succ]; exact hi)
  have h2 : OwnA (accFr l) [.l 86 2 (l.map tFct.q)] [.list (some 0) (tks tFct l 1)] (0 :: ts ++ []) :=
    .l 86 2 _ 0 _ (by simp [accFr]) (by rw [length_tks, List.length_map]) (fun e he => by obtain ⟨a, _, rfl⟩ := List.mem_map.1 he; exact tFct.hq a) (tks_sz tFct l 1) h1 .nil
  refine h.own _ h2 ?_
  rw [List.append_nil]
  refine List.nodup_cons.2 ⟨fun hm => ?_, p1.symm.nodup (List.nodup_range' _)⟩
  have := (p1.mem_iff).1 hm
  rw [List.mem_range'_1] at this
  omega
end Go.Proofs.YtoindmahilbalaaGreat
namespace Go.Proofs.YtoindmahilbalaaGreat
namespace Abs
variable {mo : Bool}
open Go.RowKit Go.Sort
theorem heap_putRow {α : Type} [Inhabited α] (enc : α → Value) (w : World) (blk off : Nat) (d : Array α) (c : Array Value) (t : TypeId) (z : Nat × Nat) (h : w.heap[blk]? = some (.cells c t z)) :
    (putRow enc w blk off d).heap[blk]? = some (.cells (putCells enc off d c) t z) := by
  simp [putRow, mapBlock, Array.getElem?_modify, h, onCells]
theorem heap_putRow_other {α : Type} [Inhabited α] (enc : α → Value) (w : World) (blk off : Nat) (d : Array α) (k : Nat) (h : k ≠ blk) : (putRow enc w blk off d).heap[k]? = w.heap[k]? := by
  simp [putRow, mapBlock, Array.getElem?_modify, Ne.symm h]
theorem heap_grow (w : World) (os : Array Obj) (k : Nat) (h : k < w.heap.size) : (grow w os).heap[k]? = w.heap[k]? := by
  simp [grow, Array.getElem?_append, h]
theorem gpost_row {w w' : World} {F : Nat → Nat} {box0 : List BId} {b0 : List ABox} {Φ : AV → List ABox → Prop} (hout : ∀ b, w.heap.size ≤ b → F b = 0) (hbl : box0.length = b0.length)
    (hbi : ∀ (j b c : Nat), box0[j]? = some (.blk b c) → b < w.heap.size ∧ (live b0 j → F b = 0))
    (hbj : ∀ (i j b c c' : Nat), box0[i]? = some (.blk b c) → box0[j]? = some (.blk b c') → live b0 i → live b0 j → i = j)
    (hB : BoxesOk w.heap.size w F [] [] box0 b0) {j blk cap : Nat} {k : RK} {cs cs' : List AV} (hj : box0[j]? = some (.blk blk cap)) (hl : b0[j]? = some (.cells k cs))
    (hdr : w.drawn ≤ w'.drawn) (hos : w'.os = w.os) (htape : w'.tape = w.tape) (hou : w'.output = w.output) (hsz : w.heap.size ≤ w'.heap.size) (hk : ∀ k, k < w.heap.size → k ≠ blk → w'.heap[k]? = w.heap[k]?)
    (hx : (∀ y v, Rep w.heap.size w F [] [] box0 y v → Rep w.heap.size w' F [] [] box0 y v) → BoxOk w.heap.size w' F [] [] box0 (.blk blk cap) (.cells k cs'))
    {e : Ending} {v : Value} {r : AV} (hv : e = .returned v) (hr : Rep w.heap.size w' F [] [] box0 r v) (hΦ : Φ r (b0.set j (.cells k cs'))) :
    ∃ (v : Value) (F' : Nat → Nat) (box1 : List BId) (r : AV) (b1 : List ABox), Φ r b1 ∧ e = .returned v ∧ Keep mo (mask b0 box0) w w' ∧ (∀ b, b < w.heap.size → F' b = F b) ∧ (∀ b, w'.heap.size ≤ b → F' b = 0) ∧
      (∀ (j : Nat) d, box0[j]? = some d → box1[j]? = some d) ∧ box1.length = b1.length ∧
      (∀ (j b c : Nat), box0.length ≤ j → box1[j]? = some (.blk b c) → (w.heap.size ≤ b ∨ ∃ i : Nat, live b0 i ∧ box0[i]? = some (.blk b c)) ∧ b < w'.heap.size) ∧
      (∀ (j b c : Nat), box1[j]? = some (.blk b c) → live b1 j → (box0.length ≤ j ∨ live b0 j) → F' b = 0) ∧
      (∀ (i j b c c' : Nat), box1[i]? = some (.blk b c) → box1[j]? = some (.blk b c') → live b1 i → live b1 j → (box0.length ≤ i ∨ live b0 i) → (box0.length ≤ j ∨ live b0 j) → i = j) ∧
      (∀ (j : Nat) d x, box1[j]? = some d → b1[j]? = some x → (box0.length ≤ j ∨ live b0 j) → BoxOk w.heap.size w' F' [] [] box1 d x) ∧ Rep w.heap.size w' F' [] [] box1 r v := by
  have hlive : live b0 j := fun h => by rw [hl] at h; cases h
  have hF0 := (hbi j blk cap hj).2 hlive
  have hjl := getElem?_lt hl
  have L : Later w F [] [] w' F [] [] := by
    refine ⟨fun b i hi => World.cell?_of_block (w := w) (hk b ?_ (fun h => by rw [h, hF0] at hi; omega)), fun _ => Nat.le_refl _, fun k t s n h => by simp at h⟩
    rcases Nat.lt_or_ge b w.heap.size with h | h
    · exact h
    · rw [hout b h] at hi; omega
  have ld : ∀ {i : Nat}, live (b0.set j (.cells k cs')) i ↔ live b0 i := live_set (by simp) hlive
  refine ⟨v, F, box0, r, _, hΦ, hv, ⟨fun _ => hdr, hos, htape, hou, hsz, fun q hq hn => hk q hq (fun h => ?_)⟩, fun _ _ => rfl, fun b hb => hout b (Nat.le_trans hsz hb), fun _ _ h => h, by simpa using hbl,
    fun i b c hi h => (by have := getElem?_lt h; omega), fun i b c hi hli _ => (hbi i b c hi).2 (ld.1 hli), fun i i' b c c' h1 h2 l1 l2 _ _ => hbj i i' b c c' h1 h2 (ld.1 l1) (ld.1 l2), fun i d x hd hx' hin => ?_, hr⟩
  · subst h
    refine hn j cap ?_
    clear hx hΦ hv hr ld L
    induction b0 generalizing box0 j with
    | nil => simp at hl
    | cons x b ih =>
      cases box0 with
      | nil => simp at hj
      | cons d box =>
        cases j with
        | zero =>
          simp at hl hj
          subst hl; subst hj
          simp [mask]
        | succ j =>
          have h1 : b[j]? = some (.cells k cs) := by simpa using hl
          have h2 : box[j]? = some (.blk q cap) := by simpa using hj
          have aux : ∀ (b : List ABox) (box : List BId) (j : Nat), b[j]? = some (.cells k cs) → box[j]? = some (.blk q cap) → (mask b box)[j]? = some (.blk q cap) := by
            intro b
            induction b with
            | nil => intro box j h; simp at h
            | cons x b ih =>
              intro box j h1 h2
              cases box with
              | nil => simp at h2
              | cons d box =>
                cases j with
                | zero => simp at h1 h2; subst h1; subst h2; simp [mask]
                | succ j => cases x <;> simpa [mask] using ih box j (by simpa using h1) (by simpa using h2)
          cases x <;> simpa [mask] using aux b box j h1 h2
  · rw [List.getElem?_set] at hx'
    by_cases hij : j = i
    · subst hij
      rw [if_pos rfl, if_pos hjl] at hx'
      rw [hj] at hd
      cases hx'; cases hd
      exact hx (fun y v h => h.later L (fun _ _ h => h))
    · rw [if_neg hij] at hx'
      refine (hB i d x hd hx').later L (fun _ _ h => h) (fun b c he hnd => ?_)
      subst he
      refine hk b (hbi i b c hd).1 (fun h => ?_)
      subst h
      exact hij (hbj j i b cap c hj hd hlive (fun h => hnd (by rw [hx'] at h; exact Option.some.inj h)))
theorem gpost_same {w : World} {F : Nat → Nat} {box0 : List BId} {b0 : List ABox} {Φ : AV → List ABox → Prop} (hout : ∀ b, w.heap.size ≤ b → F b = 0) (hbl : box0.length = b0.length)
    (hbi : ∀ (j b c : Nat), box0[j]? = some (.blk b c) → b < w.heap.size ∧ (live b0 j → F b = 0))
    (hbj : ∀ (i j b c c' : Nat), box0[i]? = some (.blk b c) → box0[j]? = some (.blk b c') → live b0 i → live b0 j → i = j)
    (hB : BoxesOk w.heap.size w F [] [] box0 b0) {e : Ending} {v : Value} {r : AV} (hv : e = .returned v) (hr : Rep w.heap.size w F [] [] box0 r v) (hΦ : Φ r b0) :
    ∃ (v : Value) (F' : Nat → Nat) (box1 : List BId) (r : AV) (b1 : List ABox), Φ r b1 ∧ e = .returned v ∧ Keep mo (mask b0 box0) w w ∧ (∀ b, b < w.heap.size → F' b = F b) ∧ (∀ b, w.heap.size ≤ b → F' b = 0) ∧
      (∀ (j : Nat) d, box0[j]? = some d → box1[j]? = some d) ∧ box1.length = b1.length ∧
      (∀ (j b c : Nat), box0.length ≤ j → box1[j]? = some (.blk b c) → (w.heap.size ≤ b ∨ ∃ i : Nat, live b0 i ∧ box0[i]? = some (.blk b c)) ∧ b < w.heap.size) ∧
      (∀ (j b c : Nat), box1[j]? = some (.blk b c) → live b1 j → (box0.length ≤ j ∨ live b0 j) → F' b = 0) ∧
      (∀ (i j b c c' : Nat), box1[i]? = some (.blk b c) → box1[j]? = some (.blk b c') → live b1 i → live b1 j → (box0.length ≤ i ∨ live b0 i) → (box0.length ≤ j ∨ live b0 j) → i = j) ∧
      (∀ (j : Nat) d x, box1[j]? = some d → b1[j]? = some x → (box0.length ≤ j ∨ live b0 j) → BoxOk w.heap.size w F' [] [] box1 d x) ∧ Rep w.heap.size w F' [] [] box1 r v :=
  ⟨v, F, box0, r, b0, hΦ, hv, Keep.refl _ _, fun _ _ => rfl, hout, fun _ _ h => h, hbl, fun i b c hi h => (by have := getElem?_lt h; omega), fun i b c hi hl _ => (hbi i b c hi).2 hl,
    fun i j b c c' h1 h2 l1 l2 _ _ => hbj i j b c c' h1 h2 l1 l2, fun i d x hd hx _ => hB i d x hd hx, hr⟩
theorem putCells_zero {α : Type} [Inhabited α] (enc : α → Value) (d : Array α) (c : Array Value) (h : d.size ≤ c.size) : (putCells enc 0 d c).toList = d.toList.map enc ++ c.toList.drop d.size := by
  apply List.ext_getElem?
  intro i
  rw [Array.getElem?_toList, putCells, Array.getElem?_mapIdx, List.getElem?_append, List.length_map, Array.length_toList]
  by_cases hi : i < d.size
  · have hc : i < c.size := by omega
    simp [hi, hc, getElem!_pos d i hi]
  · rw [if_neg hi, List.getElem?_drop, show d.size + (i - d.size) = i by omega, Array.getElem?_toList]
    cases c[i]? with
    | none => rfl
    | some x => simp [hi]
theorem set_self {α : Type} {l : List α} {j : Nat} {x : α} (h : l[j]? = some x) : l.set j x = l := by
  apply List.ext_getElem?
  intro i
  rw [List.getElem?_set]
  split
  · rename_i hij; subst hij; rw [if_pos (getElem?_lt h), h]
  · rfl
theorem texts_of_box {B : Nat} {w : World} {F : Nat → Nat} {box : List BId} {b cap t : Nat} {ss : List Str} (h : BoxOk B w F [] [] box (.blk b cap) (.cells (.row t 1) (ss.map .str))) :
    ∃ c : Array Value, w.heap[b]? = some (.cells c t (0, 0)) ∧ ss.length ≤ c.size ∧ (∀ (i : Nat) s, ss[i]? = some s → c[i]? = some (mkS s)) ∧ c.size = cap ∧ cap ≤ maxLen := by
  obtain ⟨c, t', hh, hle, hr, rfl, hcs, hcm⟩ := h
  rw [List.length_map] at hle
  refine ⟨c, hh, hle, fun i s hi => ?_, by omega, hcm⟩
  have hlt := getElem?_lt hi
  have hx := (hr i (.str s) (by rw [List.getElem?_map, hi]; rfl)).1
  have hc : c[i]? = some (c.getD i undef) := by simp [Array.getD, show i < c.size by omega]
  rw [hc]
  generalize c.getD i undef = u at hx
  cases hx; rfl
theorem texts_both {B : Nat} {w : World} {F : Nat → Nat} {box : List BId} (ss : List Str) : Both (Rep B w F [] [] box) (ss.map .str) (ss.map mkS) := by
  refine ⟨by simp, fun i x y hx hy => ?_⟩
  rw [List.getElem?_map] at hx hy
  cases hi : ss[i]? with
  | none => rw [hi] at hx; cases hx
  | some s => rw [hi] at hx hy; cases hx; cases hy; exact .str s
end Abs
end Go.Proofs.YtoindmahilbalaaGreat
namespace Go.Proofs
open Go.Shelf
open Go.Shelf
def Tryz.lays190_ren : Go.Shelf.Ren := ⟨fun | 190 => 180 | 125 => 204 | 258 => 203 | 128 => 220 | 129 => 221 | 302 => 211 | 303 => 212 | 304 => 213 | 305 => 214 | 306 => 215 | 307 => 216 | 308 => 217 | 309 => 218 | 310 => 219 | 333 => 228 | 329 => 229 | 330 => 230 | 334 => 231 | 335 => 232 | 336 => 182 | 344 => 235 | n => n, fun | 31 => 77 | 9 => 9 | 3 => 3 | 46 => 199 | 0 => 0 | 51 => 216 | 53 => 218 | 4 => 4 | 183 => 210 | 182 => 209 | 131 => 168 | 5 => 5 | 218 => 219 | 222 => 223 | 228 => 226 | 229 => 227 | n => n, fun | n => n⟩
theorem Tryz.lays190 : Go.Proofs.Lays.n190 Tryz.prog Tryz.lays190_ren := {
  mixed := by kernel_rfl
  f125 := Tryz.func204.trans (congrArg some (by kernel_rfl))
  f128 := Tryz.func220.trans (congrArg some (by kernel_rfl))
  f129 := Tryz.func221.trans (congrArg some (by kernel_rfl))
  f190 := Tryz.func180.trans (congrArg some (by kernel_rfl))
  f258 := Tryz.func203.trans (congrArg some (by kernel_rfl))
  f302 := Tryz.func211.trans (congrArg some (by kernel_rfl))
  f303 := Tryz.func212.trans (congrArg some (by kernel_rfl))
  f304 := Tryz.func213.trans (congrArg some (by kernel_rfl))
  f305 := Tryz.func214.trans (congrArg some (by kernel_rfl))
  f306 := Tryz.func215.trans (congrArg some (by kernel_rfl))
  f307 := Tryz.func216.trans (congrArg some (by kernel_rfl))
  f308 := Tryz.func217.trans (congrArg some (by kernel_rfl))
  f309 := Tryz.func218.trans (congrArg some (by kernel_rfl))
  f310 := Tryz.func219.trans (congrArg some (by kernel_rfl))
  f329 := Tryz.func229.trans (congrArg some (by kernel_rfl))
  f330 := Tryz.func230.trans (congrArg some (by kernel_rfl))
  f333 := Tryz.func228.trans (congrArg some (by kernel_rfl))
  f334 := Tryz.func231.trans (congrArg some (by kernel_rfl))
  f335 := Tryz.func232.trans (congrArg some (by kernel_rfl))
  f336 := Tryz.func182.trans (congrArg some (by kernel_rfl))
  f344 := Tryz.func235.trans (congrArg some (by kernel_rfl))
  t0 := Tryz.underlying0
  a0 := Tryz.isAgg0
  z0 := Tryz.sizeOf0
  v0 := Tryz.zeroValue0
  t3 := Tryz.underlying3
  a3 := Tryz.isAgg3
  z3 := Tryz.sizeOf3
  v3 := Tryz.zeroValue3
  t4 := Tryz.underlying4
  a4 := Tryz.isAgg4
  z4 := Tryz.sizeOf4
  v4 := Tryz.zeroValue4
  t5 := Tryz.underlying5
  a5 := Tryz.isAgg5
  z5 := Tryz.sizeOf5
  v5 := Tryz.zeroValue5
  t9 := Tryz.underlying9
  a9 := Tryz.isAgg9
  z9 := Tryz.sizeOf9
  v9 := Tryz.zeroValue9
  t31 := Tryz.underlying77
  a31 := Tryz.isAgg77
  z31 := Tryz.sizeOf77
  v31 := Tryz.zeroValue77
  t46 := Tryz.underlying199
  a46 := Tryz.isAgg199
  z46 := Tryz.sizeOf199
  v46 := Tryz.zeroValue199
  t51 := Tryz.underlying216
  a51 := Tryz.isAgg216
  z51 := Tryz.sizeOf216
  v51 := Tryz.zeroValue216
  t53 := Tryz.underlying218
  a53 := Tryz.isAgg218
  z53 := Tryz.sizeOf218
  v53 := Tryz.zeroValue218
  t131 := Tryz.underlying168
  a131 := Tryz.isAgg168
  z131 := Tryz.sizeOf168
  v131 := Tryz.zeroValue168
  t182 := Tryz.underlying209
  a182 := Tryz.isAgg209
  z182 := Tryz.sizeOf209
  v182 := Tryz.zeroValue209
  t183 := Tryz.underlying210
  a183 := Tryz.isAgg210
  z183 := Tryz.sizeOf210
  v183 := Tryz.zeroValue210
  t218 := Tryz.underlying219
  a218 := Tryz.isAgg219
  z218 := Tryz.sizeOf219
  v218 := Tryz.zeroValue219
  t222 := Tryz.underlying223
  a222 := Tryz.isAgg223
  z222 := Tryz.sizeOf223
  v222 := Tryz.zeroValue223
  t228 := Tryz.underlying226
  a228 := Tryz.isAgg226
  z228 := Tryz.sizeOf226
  v228 := Tryz.zeroValue226
  t229 := Tryz.underlying227
  a229 := Tryz.isAgg227
  z229 := Tryz.sizeOf227
  v229 := Tryz.zeroValue227 }
open Go.Sort Go.RowKit in
theorem Tryz.slices_Sort_string (blk off cap : Nat) (ss : List (List UInt8)) (w : World) (hH : Holds encStr w blk off ss.toArray) (hblk : blk < w.heap.size) (hsz : ss.length < 4611686018427387904) :
    Calls Tryz.prog 180 #[.slice (some ⟨blk, off, none⟩) ss.length cap] w fun e w' =>
      e = .returned (.tuple #[]) ∧ ∃ n os, w' = grow (putRow encStr (Sort.ahead w n) blk off (ss.mergeSort fun x y => decide (x ≤ y)).toArray) os := Any.slices_Sort_string Tryz.lays190 blk off cap ss w hH hblk hsz
def Tryz.lays194_ren : Go.Shelf.Ren := ⟨fun | 194 => 181 | n => n, fun | 31 => 77 | 9 => 9 | 3 => 3 | 4 => 4 | 0 => 0 | n => n, fun | n => n⟩
theorem Tryz.lays194 : Go.Proofs.Lays.n194 Tryz.prog Tryz.lays194_ren := {
  mixed := by kernel_rfl
  f194 := Tryz.func181.trans (congrArg some (by kernel_rfl))
  t0 := Tryz.underlying0
  a0 := Tryz.isAgg0
  z0 := Tryz.sizeOf0
  v0 := Tryz.zeroValue0
  t3 := Tryz.underlying3
  a3 := Tryz.isAgg3
  z3 := Tryz.sizeOf3
  v3 := Tryz.zeroValue3
  t4 := Tryz.underlying4
  a4 := Tryz.isAgg4
  z4 := Tryz.sizeOf4
  v4 := Tryz.zeroValue4
  t9 := Tryz.underlying9
  a9 := Tryz.isAgg9
  z9 := Tryz.sizeOf9
  v9 := Tryz.zeroValue9
  t31 := Tryz.underlying77
  a31 := Tryz.isAgg77
  z31 := Tryz.sizeOf77
  v31 := Tryz.zeroValue77 }
open Go.RowKit Go.Lib Go.Sort in
theorem Tryz.slices_Compact_string (blk off cap : Nat) (zs : List (List UInt8)) (w : World) (hH : Holds encStr w blk off zs.toArray) (hsz : zs.length ≤ 9223372036854775807) (hcap : zs.length ≤ cap) :
    Calls Tryz.prog 181 #[.slice (some ⟨blk, off, none⟩) zs.length cap] w fun e w' => e = .returned (.slice (some ⟨blk, off, none⟩) (Lib.compact zs).length cap) ∧ ∃ q, w' = putRow encStr (Sort.ahead w q) blk off (Lib.compact zs ++ List.replicate (zs.length - (Lib.compact zs).length) []).toArray := Any.slices_Compact_string Tryz.lays194 blk off cap zs w hH hsz hcap
open Go.RowKit Go.Lib Go.Sort in
theorem Tryz.slices_Compact_string_empty (a : Option Addr) (cap : Nat) (w : World) :
    Calls Tryz.prog 181 #[.slice a 0 cap] w fun e w' => e = .returned (.slice a 0 cap) ∧ w' = w := Any.slices_Compact_string_empty Tryz.lays194 a cap w
open Go.RowKit Go.Sort in
theorem Tryz.slices_Sort_string_none (p : Option Addr) (cap : Nat) (w : World) :
    Calls Tryz.prog 180 #[.slice p 0 cap] w fun e w' => e = .returned (.tuple #[]) ∧ w' = w := Any.slices_Sort_string_none Tryz.lays190 p cap w
end Go.Proofs
namespace Go.Proofs.YtoindmahilbalaaGreat
open Abs Go.RowKit Go.Sort
def srt (ss : List Str) : List Str := ss.mergeSort fun x y => decide (x ≤ y)
theorem compact_nil : Lib.compact ([] : List Str) = [] := rfl
theorem compact_len (ss : List Str) : (Lib.compact ss).length ≤ ss.length := by
  rw [Lib.compact, Lib.compactUpTo, List.length_map]
  exact Nat.le_trans (List.length_filter_le _ _) (by simp)
theorem holds_texts {w : World} {b t : Nat} {ss : List Str} {c : Array Value} (hh : w.heap[b]? = some (.cells c t (0, 0))) (hc : ∀ (i : Nat) s, ss[i]? = some s → c[i]? = some (mkS s)) : Holds encStr w b 0 ss.toArray := by
  intro i hi
  have hi' : i < ss.length := by simpa using hi
  have h1 := hc i _ (List.getElem?_eq_getElem hi')
  have e1 : ss.toArray[i]! = ss[i] := by simp [hi']
  rw [e1, Nat.zero_add]
  refine ⟨by rw [cell_of_row w b i c t (0, 0) hh, h1]; rfl, ?_⟩
  simp [World.frozen?, hh]
theorem slSort.ctx (b : List ABox) (j : Nat) (ss : List Str) (hj : b[j]? = some (.cells (.row 9 1) (ss.map .str))) (hn : ss.length ≤ 1099511627776) :
    slSort.Ctx b [.bsl j ss.length] (fun r b1 => r = .tup [] ∧ b1 = b.set j (.cells (.row 9 1) ((srt ss).map .str))) := by
  unfold slSort.Ctx
  rw [Ctx_eq]
  refine ⟨by kernel_rfl, fun w F vs box0 hout hbl hbi hbj hB hargs => ?_⟩
  obtain ⟨v0, rfl⟩ : ∃ v0, vs = #[v0] := by
    have := hargs.1
    match vs, this with
    | ⟨[a]⟩, _ => exact ⟨a, rfl⟩
  obtain ⟨h0, _⟩ := Both.cons.1 hargs
  rcases h0.bsl_inv with ⟨bl, cap, hb, hcap, rfl⟩ | ⟨hb, hz, rfl⟩
  · obtain ⟨c, hh, hle, hc, hcs, hcm⟩ := texts_of_box (hB j _ _ hb hj)
    refine (Tryz.slices_Sort_string bl 0 cap ss w (holds_texts hh hc) (hbi j bl cap hb).1 (by omega)).mono ?_
    rintro e w' ⟨rfl, n, os, hw⟩
    have hlen : (srt ss).length = ss.length := List.length_mergeSort _
    have hh' : w'.heap[bl]? = some (.cells (putCells encStr 0 (srt ss).toArray c) 9 (0, 0)) := by
      rw [hw, heap_grow _ _ _ (by simpa using (hbi j bl cap hb).1)]
      exact heap_putRow encStr (Sort.ahead w n) bl 0 (srt ss).toArray c _ (0, 0) hh
    have hk : ∀ k, k < w.heap.size → k ≠ bl → w'.heap[k]? = w.heap[k]? := fun k hk hkb => by
      rw [hw, heap_grow _ _ _ (by simpa using hk), heap_putRow_other _ _ _ _ _ _ hkb]; rfl
    refine gpost_row (w' := w') (Φ := fun r b1 => r = .tup [] ∧ b1 = b.set j (.cells (.row 9 1) ((srt ss).map .str))) (v := .tuple #[]) (r := .tup []) hout hbl hbi hbj hB hb hj
      (by rw [hw]; simp [grow, putRow, mapBlock, Sort.ahead]) (by rw [hw]; rfl) (by rw [hw]; rfl) (by rw [hw]; rfl) (by rw [hw]; simp) hk (fun _ => ?_) rfl (.tup [] #[] rfl (by simp)) ⟨rfl, rfl⟩
    refine boxOk_row (c := putCells encStr 0 (srt ss).toArray c) (vals := (srt ss).map mkS) (rest := c.toList.drop (srt ss).length) hh' ?_ (texts_both _) (fun u hu => ?_) ?_ hcm
    · rw [putCells_zero _ _ _ (by simp [hlen]; exact hle)]; simp; intro a _; rfl
    · obtain ⟨s, _, rfl⟩ := List.mem_map.1 hu; rfl
    · simp [hlen]; omega
  · have h0 : ss = [] := List.eq_nil_of_length_eq_zero hz
    subst h0
    refine (Tryz.slices_Sort_string_none none 0 w).mono ?_
    rintro e w' ⟨rfl, rfl⟩
    exact gpost_same hout hbl hbi hbj hB rfl (.tup [] #[] rfl (by simp)) ⟨rfl, by rw [show srt [] = [] by simp [srt], set_self hj]⟩
theorem slCompact.ctx (b : List ABox) (j : Nat) (ss : List Str) (hj : b[j]? = some (.cells (.row 9 1) (ss.map .str))) (hn : ss.length ≤ 1099511627776) :
    slCompact.Ctx b [.bsl j ss.length] (fun r b1 => r = .bsl j (Lib.compact ss).length ∧ b1 = b.set j (.cells (.row 9 1) ((Lib.compact ss).map .str))) := by
  unfold slCompact.Ctx
  rw [Ctx_eq]
  refine ⟨by kernel_rfl, fun w F vs box0 hout hbl hbi hbj hB hargs => ?_⟩
  obtain ⟨v0, rfl⟩ : ∃ v0, vs = #[v0] := by
    have := hargs.1
    match vs, this with
    | ⟨[a]⟩, _ => exact ⟨a, rfl⟩
  obtain ⟨h0, _⟩ := Both.cons.1 hargs
  rcases h0.bsl_inv with ⟨bl, cap, hb, hcap, rfl⟩ | ⟨hb, hz, rfl⟩
  · obtain ⟨c, hh, hle, hc, hcs, hcm⟩ := texts_of_box (hB j _ _ hb hj)
    have hcl := compact_len ss
    refine (Tryz.slices_Compact_string bl 0 cap ss w (holds_texts hh hc) (by omega) hcap).mono ?_
    rintro e w' ⟨rfl, n, hw⟩
    have hh' : w'.heap[bl]? = some (.cells (putCells encStr 0 (Lib.compact ss ++ List.replicate (ss.length - (Lib.compact ss).length) []).toArray c) 9 (0, 0)) := by
      rw [hw]; exact heap_putRow encStr (Sort.ahead w n) bl 0 _ c _ (0, 0) hh
    have hk : ∀ k, k < w.heap.size → k ≠ bl → w'.heap[k]? = w.heap[k]? := fun k hk hkb => by
      rw [hw, heap_putRow_other _ _ _ _ _ _ hkb]; rfl
    refine gpost_row (w' := w') (Φ := fun r b1 => r = .bsl j (Lib.compact ss).length ∧ b1 = b.set j (.cells (.row 9 1) ((Lib.compact ss).map .str))) (r := .bsl j (Lib.compact ss).length) hout hbl hbi hbj hB hb hj
      (by rw [hw]; simp [putRow, mapBlock, Sort.ahead]) (by rw [hw]; rfl) (by rw [hw]; rfl) (by rw [hw]; rfl) (by rw [hw]; simp) hk (fun _ => ?_) rfl (.bsl j _ bl cap hb (by omega)) ⟨rfl, rfl⟩
    refine boxOk_row (vals := (Lib.compact ss).map mkS) (rest := List.replicate (ss.length - (Lib.compact ss).length) (mkS []) ++ c.toList.drop ss.length) hh' ?_ (texts_both _) (fun u hu => ?_) ?_ hcm
    · rw [putCells_zero _ _ _ (by simp; omega)]
      simp only [List.map_append, List.map_replicate, List.append_assoc, List.size_toArray, List.length_append, List.length_replicate, Nat.add_sub_cancel' hcl]
      rfl
    · obtain ⟨s, _, rfl⟩ := List.mem_map.1 hu; rfl
    · simp; omega
  · have h0 : ss = [] := List.eq_nil_of_length_eq_zero hz
    subst h0
    refine (Tryz.slices_Compact_string_empty none 0 w).mono ?_
    rintro e w' ⟨rfl, rfl⟩
    exact gpost_same hout hbl hbi hbj hB rfl (.bnil j hb) ⟨by rw [compact_nil]; rfl, by rw [compact_nil, set_self hj]⟩
end Go.Proofs.YtoindmahilbalaaGreat
namespace Go.Proofs.YtoindmahilbalaaGreat
open Abs
structure STO {α : Type} (lt : α → α → Bool) : Prop where
  irrefl : ∀ x, lt x x = false
  trans : ∀ x y z, lt x y = true → lt y z = true → lt x z = true
  tri : ∀ x y, lt x y = false → lt y x = false → x = y
section
variable {α : Type} {lt : α → α → Bool}
theorem STO.asymm (h : STO lt) {x y : α} (hxy : lt x y = true) : lt y x = false := by
  cases hyx : lt y x with
  | false => rfl
  | true => have := h.trans x y x hxy hyx; rw [h.irrefl] at this; cases this
def Asc (lt : α → α → Bool) (l : List α) : Prop := l.Pairwise fun x y => lt x y = true
theorem Asc.nodup (h : STO lt) {l : List α} (hl : Asc lt l) : l.Nodup := hl.imp fun {x y} hxy e => by subst e; rw [h.irrefl] at hxy; cases hxy
theorem Asc.unique (h : STO lt) : ∀ {l m : List α}, Asc lt l → Asc lt m → (∀ x, x ∈ l ↔ x ∈ m) → l = m
  | [], [], _, _, _ => rfl
  | [], y :: m, _, _, hm => absurd ((hm y).2 (by simp)) (by simp)
  | x :: l, [], _, _, hm => absurd ((hm x).1 (by simp)) (by simp)
  | x :: l, y :: m, hl, hr, hm => by
    obtain ⟨h1, h2⟩ := List.pairwise_cons.1 hl
    obtain ⟨h3, h4⟩ := List.pairwise_cons.1 hr
    have hxy : x = y := by
      rcases List.mem_cons.1 ((hm x).1 (by simp)) with e | hx
      · exact e
      · rcases List.mem_cons.1 ((hm y).2 (by simp)) with e | hy
        · exact e.symm
        · have := h.asymm (h3 x hx); rw [h1 y hy] at this; cases this
    subst hxy
    congr 1
    refine Asc.unique h h2 h4 fun z => ⟨fun hz => ?_, fun hz => ?_⟩
    · rcases List.mem_cons.1 ((hm z).1 (by simp [hz])) with e | hz'
      · subst e; have := h1 z hz; rw [h.irrefl] at this; cases this
      · exact hz'
    · rcases List.mem_cons.1 ((hm z).2 (by simp [hz])) with e | hz'
      · subst e; have := h3 z hz; rw [h.irrefl] at this; cases this
      · exact hz'
def ins (lt : α → α → Bool) (s : α) : Bool → List α → List α
  | d, [] => if d then [] else [s]
  | true, x :: l => x :: ins lt s true l
  | false, x :: l => if lt x s then x :: ins lt s false l else if lt s x then s :: x :: ins lt s true l else x :: ins lt s true l
theorem ins_true (s : α) : ∀ l, ins lt s true l = l
  | [] => rfl
  | x :: l => by rw [ins, ins_true s l]
theorem ins_mem (h : STO lt) (s : α) : ∀ l x, x ∈ ins lt s false l ↔ x = s ∨ x ∈ l
  | [], x => by simp [ins]
  | y :: l, x => by
    rw [ins]
    split
    · rw [List.mem_cons, ins_mem h s l x, List.mem_cons]
      exact ⟨fun h => by rcases h with h | h | h <;> simp [h], fun h => by rcases h with h | h | h <;> simp [h]⟩
    · rename_i h1
      split
      · rw [ins_true]; simp
      · rename_i h2
        rw [ins_true]
        have : y = s := h.tri y s (by simpa using h1) (by simpa using h2)
        subst this; simp
theorem ins_asc (h : STO lt) (s : α) : ∀ l, Asc lt l → Asc lt (ins lt s false l)
  | [], _ => by simp [ins, Asc]
  | y :: l, hl => by
    obtain ⟨h1, h2⟩ := List.pairwise_cons.1 hl
    rw [ins]
    split
    · rename_i hy
      refine List.pairwise_cons.2 ⟨fun z hz => ?_, ins_asc h s l h2⟩
      rcases (ins_mem h s l z).1 hz with rfl | hz
      · exact hy
      · exact h1 z hz
    · split
      · rename_i hs
        rw [ins_true]
        refine List.pairwise_cons.2 ⟨fun z hz => ?_, hl⟩
        rcases List.mem_cons.1 hz with rfl | hz
        · exact hs
        · exact h.trans _ _ _ hs (h1 z hz)
      · rw [ins_true]; exact hl
theorem ins_len (s : α) : ∀ (d : Bool) (l : List α), (ins lt s d l).length ≤ l.length + 1
  | true, l => by rw [ins_true]; omega
  | false, [] => by simp [ins]
  | false, y :: l => by
    have := ins_len s false l
    rw [ins]
    split
    · simp only [List.length_cons]; omega
    · split <;> simp [ins_true]
def insAll (lt : α → α → Bool) (l : List α) : List α := l.foldl (fun a s => ins lt s false a) []
theorem insAll_take_succ {l : List α} {i : Nat} (d : α) (h : i < l.length) : insAll lt (l.take (i + 1)) = ins lt (l.getD i d) false (insAll lt (l.take i)) := by
  unfold insAll; exact foldl_take_succ d _ _ h
theorem insAll_asc (h : STO lt) (l : List α) : Asc lt (insAll lt l) := by
  have : ∀ (l a : List α), Asc lt a → Asc lt (l.foldl (fun a s => ins lt s false a) a) := fun l => by
    induction l with
    | nil => exact fun a ha => ha
    | cons x l ih => exact fun a ha => ih _ (ins_asc h x a ha)
  exact this l [] .nil
theorem insAll_mem (h : STO lt) (l : List α) (x : α) : x ∈ insAll lt l ↔ x ∈ l := by
  have : ∀ (l a : List α), x ∈ l.foldl (fun a s => ins lt s false a) a ↔ x ∈ l ∨ x ∈ a := fun l => by
    induction l with
    | nil => simp
    | cons y l ih =>
      intro a
      rw [List.foldl_cons, ih, ins_mem h, List.mem_cons]
      exact ⟨fun h => by rcases h with h | h | h <;> simp [h], fun h => by rcases h with (h | h) | h <;> simp [h]⟩
  unfold insAll; simpa using this l []
theorem insAll_len (l : List α) : (insAll lt l).length ≤ l.length := by
  have : ∀ (l a : List α), (l.foldl (fun a s => ins lt s false a) a).length ≤ a.length + l.length := fun l => by
    induction l with
    | nil => simp
    | cons x l ih => intro a; have := ih (ins lt x false a); have := ins_len (lt := lt) x false a; simp only [List.foldl_cons, List.length_cons] at *; omega
  unfold insAll; simpa using this l []
variable [Inhabited α] [DecidableEq α]
theorem compact_asc (h : STO lt) (l : List α) (hs : l.Pairwise fun x y => lt y x = false) : Asc lt (Lib.compact l) ∧ ∀ x, x ∈ Lib.compact l ↔ x ∈ l := by
  have key : ∀ m, m ≤ l.length → Asc lt (Lib.compactUpTo l.toArray m) ∧ (∀ x, x ∈ Lib.compactUpTo l.toArray m ↔ x ∈ l.take m) := by
    intro m
    induction m with
    | zero => intro _; simp [Lib.compactUpTo, Asc]
    | succ m ih =>
      intro hm
      obtain ⟨i1, i2⟩ := ih (by omega)
      have hml : m < l.length := by omega
      have hgm : l.toArray[m]! = l[m] := by simp [hml]
      have htake : l.take (m + 1) = l.take m ++ [l[m]] := by rw [List.take_succ_eq_append_getElem hml]
      rw [Lib.compactUpTo_succ, htake]
      by_cases hk : Lib.keeps l.toArray m = true
      · rw [if_pos hk, hgm]
        refine ⟨List.pairwise_append.2 ⟨i1, by simp, fun x hx y hy => ?_⟩, fun x => by rw [List.mem_append, List.mem_append, i2]⟩
        simp only [List.mem_singleton] at hy; subst hy
        have hx' := (i2 x).1 hx
        obtain ⟨i, hi, hix⟩ := List.getElem_of_mem hx'
        have him : i < m := by simp at hi; omega
        have hil : i < l.length := by omega
        have hxl : l[i] = x := by rw [← hix]; simp
        have hpw := List.pairwise_iff_getElem.1 hs
        -- the one before is another one
        have hne : l[m] ≠ l[m - 1] := by
          simp only [Lib.keeps, decide_eq_true_eq] at hk
          rcases hk with hk | hk
          · omega
          · rw [hgm] at hk
            have : l.toArray[m - 1]! = l[m - 1] := by simp [show m - 1 < l.length by omega]
            rwa [this] at hk
        have hle1 : lt l[m] l[m - 1] = false := hpw (m - 1) m (by omega) hml (by omega)
        have hlt1 : lt l[m - 1] l[m] = true := by
          cases hc : lt l[m - 1] l[m] with
          | true => rfl
          | false => exact absurd (h.tri _ _ hle1 hc) hne
        by_cases him1 : i = m - 1
        · subst him1; rw [← hxl]; exact hlt1
        · have hle2 : lt l[m - 1] l[i] = false := hpw i (m - 1) hil (by omega) (by omega)
          cases hc : lt x l[m] with
          | true => rfl
          | false =>
            exfalso
            rw [← hxl] at hc
            cases hd : lt l[i] l[m - 1] with
            | true => have := h.trans _ _ _ hd hlt1; rw [this] at hc; cases hc
            | false => have := h.tri _ _ hd hle2; rw [this, hlt1] at hc; cases hc
      · rw [if_neg hk, List.append_nil]
        refine ⟨i1, fun x => ?_⟩
        rw [List.mem_append, i2, List.mem_singleton]
        refine ⟨.inl, fun hx => ?_⟩
        rcases hx with hx | rfl
        · exact hx
        · simp only [Lib.keeps, decide_eq_true_eq, not_or, Decidable.not_not] at hk
          have h2 : l.toArray[m - 1]! = l[m - 1] := by simp [show m - 1 < l.length by omega]
          rw [hgm, h2] at hk
          rw [hk.2]
          have h3 : m - 1 < (l.take m).length := by simp; omega
          have h4 : (l.take m)[m - 1] = l[m - 1] := by simp
          rw [← h4]; exact List.getElem_mem h3
  have := key l.length (Nat.le_refl _)
  rw [List.take_length] at this
  exact this
end
def blt (a b : Str) : Bool := Op.bytesLess a b
theorem blt_eq : ∀ a b : Str, blt a b = decide (a < b)
  | _, [] => by simp [blt, Op.bytesLess]
  | [], _ :: _ => by simp [blt, Op.bytesLess]
  | a :: x, b :: y => by
    have ih := blt_eq x y
    rw [blt] at ih ⊢
    rw [Op.bytesLess, ih]
    rw [Bool.eq_iff_iff]
    simp only [Bool.or_eq_true, Bool.and_eq_true, decide_eq_true_eq, beq_iff_eq]
    rw [List.cons_lt_cons_iff]
theorem blt_sto : STO blt where
  irrefl x := by rw [blt_eq]; simp [List.lt_irrefl]
  trans x y z h1 h2 := by rw [blt_eq, decide_eq_true_eq] at *; exact List.lt_trans h1 h2
  tri x y h1 h2 := by
    rw [blt_eq, decide_eq_false_iff_not] at *
    exact List.le_antisymm (List.not_lt.1 h2) (List.not_lt.1 h1)
end Go.Proofs.YtoindmahilbalaaGreat
namespace Go.Proofs.YtoindmahilbalaaGreat
open Abs
theorem ins_drop {α : Type} {lt : α → α → Bool} {s : α} {l : List α} {i : Nat} (e : α) (d : Bool) (hi : i < l.length) :
    ins lt s d (l.drop i) = if d then l.getD i e :: ins lt s true (l.drop (i + 1)) else if lt (l.getD i e) s then l.getD i e :: ins lt s false (l.drop (i + 1)) else if lt s (l.getD i e) then s :: l.getD i e :: ins lt s true (l.drop (i + 1)) else l.getD i e :: ins lt s true (l.drop (i + 1)) := by
  rw [List.drop_eq_getElem_cons hi]
  have : l.getD i e = l[i] := by simp [List.getD, hi]
  rw [this]
  cases d <;> rfl
theorem sPut.ret (l : List Str) (s : Str) (h : l.length ≤ 1048576) : sPut.Ret [.list none (strs l), .str s] (.list (some 0) (strs (ins blt s false l))) [(9, 1, (ins blt s false l).length)] := by
  refine sPut.ir.of rfl ?_
  repeat' first
    | (conv => whnf
       first | refine Need.mk rfl ?_)
  refine ALoop.mk (Nat × List Str × Bool) (fun a => ⟨[(0, .list none (strs l)), (1, .str s), (5, .list (some 0) (strs a.2.1)), (6, .val (.bool a.2.2)), (7, .val (.int .i64 a.1))], [], [(9, 1, a.2.1.length)]⟩)
    (fun a => a.1 ≤ l.length ∧ (a.2.1.length ≤ a.1 + 1 ∧ (a.2.2 = false → a.2.1.length ≤ a.1)) ∧ a.2.1 ++ ins blt s a.2.2 (l.drop a.1) = ins blt s false l) (fun a => l.length - a.1) ⟨(0, [], false), ⟨Nat.zero_le _, ⟨Nat.zero_le _, fun _ => Nat.zero_le _⟩, rfl⟩, ?_⟩ (fun a ha => ?_)
  · repeat' first
      | exact trivial | refine wl_ ?_ ?_ ?_ ?_ | refine And.intro ?_ ?_ | with_reducible rfl | exact ble_ | refine fr1 ?_ | refine AV.int_congr ?_ | refine AV.bool_congr ?_ | refine AV.str_congr ?_ | refine AV.list_congr ?_ | (apply rfl)
  obtain ⟨i, o, d⟩ := a
  obtain ⟨h1, h2, h3⟩ := ha
  simp only at h1 h2 h3 ⊢
  repeat' first
    | (conv => whnf
       first | refine Need.mk (fun h => h) ?_ | refine Need.mk rfl ?_ | refine Need.mk ?_ ?_ | refine Ix.strsF rfl ?_ | refine Fork.dec (fun _ => ?_) (fun _ => ?_) | refine Fork.sne (fun _ => ?_) (fun _ => ?_) | refine Fork.neg (fun _ => ?_) (fun _ => ?_) | refine Fork.mk (fun _ => ?_) (fun _ => ?_) | refine Round.mk ?_ | refine Lit.read rfl ?_ | refine Final.mk ?_ ?_)
    | refine AV.list_congr ?_ | refine fr1 ?_
  all_goals try simp only [length_strs, List.length_append, List.length_singleton, List.length_cons, List.length_nil, Int.toNat_natCast] at *
  all_goals try (intro c hc; rw [List.mem_singleton.1 hc]; rfl)
  all_goals try (cases d with
    | true => simp at *; done
    | false => have h4 := h2.2 rfl; constructor <;> omega)
  all_goals try (constructor <;> omega)
  · have hb := ‹(!d && !Op.bytesLess (l.getD i []) s) = true›
    have hne := ‹l.getD i [] ≠ s›
    obtain ⟨rfl, hlt⟩ : d = false ∧ blt (l.getD i []) s = false := by revert hb; cases d <;> simp [blt]
    rw [ins_drop [] false (by omega), if_neg (by simp), if_neg (by rw [hlt]; simp)] at h3
    have hgt : blt s (l.getD i []) = true := by
      cases hc : blt s (l.getD i []) with
      | true => rfl
      | false => exact absurd (blt_sto.tri _ _ hlt hc) hne
    rw [if_pos hgt] at h3
    refine ⟨(i + 1, o ++ [s] ++ [l.getD i []], true), ⟨by omega, ⟨by have := h2.2 rfl; simp; omega, by simp⟩, by simpa using h3⟩, ?_, by simp only; omega⟩
    repeat' first
      | exact trivial | refine wl_ ?_ ?_ ?_ ?_ | refine And.intro ?_ ?_ | with_reducible rfl | exact ble_ | refine fr1 ?_ | refine AV.int_congr ?_ | refine AV.bool_congr ?_ | refine AV.str_congr ?_ | refine AV.list_congr ?_ | (apply rfl)
    · rw [strs_append, strs_append]; rfl
    · rw [wrap64 (by omega) (by omega)]; rfl
    · simp
  · have hb := ‹(!d && !Op.bytesLess (l.getD i []) s) = true›
    have he := ‹l.getD i [] = s›
    obtain ⟨rfl, hlt⟩ : d = false ∧ blt (l.getD i []) s = false := by revert hb; cases d <;> simp [blt]
    rw [ins_drop [] false (by omega), if_neg (by simp), if_neg (by rw [hlt]; simp), if_neg (by rw [he, blt_sto.irrefl]; simp)] at h3
    refine ⟨(i + 1, o ++ [l.getD i []], true), ⟨by omega, ⟨by have := h2.2 rfl; simp; omega, by simp⟩, by simpa using h3⟩, ?_, by simp only; omega⟩
    repeat' first
      | exact trivial | refine wl_ ?_ ?_ ?_ ?_ | refine And.intro ?_ ?_ | with_reducible rfl | exact ble_ | refine fr1 ?_ | refine AV.int_congr ?_ | refine AV.bool_congr ?_ | refine AV.str_congr ?_ | refine AV.list_congr ?_ | (apply rfl)
    · rw [strs_append]; rfl
    · rw [wrap64 (by omega) (by omega)]; rfl
    · simp
  · have hb := ‹(!d && !Op.bytesLess (l.getD i []) s) = false›
    rw [ins_drop [] d (by omega)] at h3
    refine ⟨(i + 1, o ++ [l.getD i []], d), ⟨by omega, ⟨by simp; omega, fun hd => by have := h2.2 hd; simp; omega⟩, ?_⟩, ?_, by simp only; omega⟩
    · cases d with
      | true => rw [if_pos rfl] at h3; simpa using h3
      | false =>
        have hlt : blt (l.getD i []) s = true := by revert hb; simp [blt]
        rw [if_neg (by simp), if_pos hlt] at h3; simpa using h3
    repeat' first
      | exact trivial | refine wl_ ?_ ?_ ?_ ?_ | refine And.intro ?_ ?_ | with_reducible rfl | exact ble_ | refine fr1 ?_ | refine AV.int_congr ?_ | refine AV.bool_congr ?_ | refine AV.str_congr ?_ | refine AV.list_congr ?_ | (apply rfl)
    · rw [strs_append]; rfl
    · rw [wrap64 (by omega) (by omega)]; rfl
    · simp
  all_goals rw [List.drop_of_length_le (by omega)] at h3
  · have hd := ‹d = false›
    subst hd
    rw [← h3, strs_append]; rfl
  · have hd := ‹d = false›
    subst hd
    rw [← h3]; simp [ins]
  · have hd := ‹d = true›
    subst hd
    rw [← h3]; simp [ins]
  · have hd := ‹d = true›
    subst hd
    rw [← h3]; simp [ins]
def accS (l : List Str) (i : Nat) : List Str := insAll blt (l.take i)
def frS (l : List Str) (i : Nat) : Fr := (List.range (i + 1)).map fun k => (9, 1, (accS l k).length)
theorem frS_succ (l : List Str) (i : Nat) : frS l (i + 1) = frS l i ++ [(9, 1, (accS l (i + 1)).length)] := by
  unfold frS; rw [List.range_succ (n := i + 1), List.map_append]; rfl
theorem frS_len (l : List Str) (i : Nat) : (frS l i).length = i + 1 := by simp [frS]
theorem srt_asc (l : List Str) : (srt l).Pairwise fun x y => blt y x = false := by
  have h := List.pairwise_mergeSort (le := fun x y : Str => decide (x ≤ y)) (fun a b c h1 h2 => by simp at *; exact List.le_trans h1 h2) (fun a b => by simp; exact List.le_total a b) l
  exact h.imp fun {x y} hxy => by rw [blt_eq, decide_eq_false_iff_not]; simpa using hxy
theorem srt_mem (l : List Str) (x : Str) : x ∈ srt l ↔ x ∈ l := List.mem_mergeSort
theorem compact_srt (l : List Str) : Lib.compact (srt l) = insAll blt l := by
  obtain ⟨h1, h2⟩ := compact_asc blt_sto (srt l) (srt_asc l)
  exact Asc.unique blt_sto h1 (insAll_asc blt_sto l) fun x => by rw [h2, srt_mem, insAll_mem blt_sto]
theorem slClone.own (l : List Str) (h : l.length ≤ 1048576) : slClone.Own [.list none (strs l)] (strT l) :=
  (slClone.ret l h).own [0] (.l _ _ _ 0 (strs l) (by simp) (by simp) (fun e he => by obtain ⟨s, _, rfl⟩ := List.mem_map.1 he; rfl) (strs_sz _) (own_strs _ l) .nil) (by simp)
theorem pSortedTexts.ret (l : List Str) (h : l.length ≤ 1048576) : pSortedTexts.Ret [.list none (strs l)] (.list (some 0) (strs (insAll blt l))) [(9, 1, (insAll blt l).length)] := by
  refine pSortedTexts.ir.of rfl ?_
  conv => whnf
  refine ACall.unb [.list none (strs l)] (strT l) (slClone.own l h) (.cons (SeesB.of0 (Sees0.olds _ _)) .nil) ?_
  rw [gv_strT, gb_strT]
  conv => whnf
  refine ACall.ctx rfl _ _ _ (slSort.ctx [.cells (.row 9 1) (l.map .str)] 0 l rfl (by omega)) (.lend _ _ noTk_texts .nil) (.cons (.inl ⟨rfl, rfl⟩) .nil) ?_
  rintro r b1 ⟨rfl, rfl⟩
  have hlen : (srt l).length = l.length := List.length_mergeSort _
  conv => whnf
  refine ACall.ctx rfl _ _ _ (slCompact.ctx [.cells (.row 9 1) ((srt l).map .str)] 0 (srt l) rfl (by omega)) (.lend _ _ noTk_texts .nil) (.cons (.inl ⟨by rw [hlen]; rfl, rfl⟩) .nil) ?_
  rintro r b1 ⟨rfl, rfl⟩
  rw [compact_srt]
  conv => whnf
  refine FreezeD.flat (Freeze.mk (strs (insAll blt l)) ((insAll blt l).map .str) 9 1 rfl (strs_flatten _).symm (by simp) (strs_sz _) (fun c hc => ?_) ?_)
  · obtain ⟨s, _, rfl⟩ := List.mem_map.1 hc; rfl
  · exact Final.mk rfl rfl
end Go.Proofs.YtoindmahilbalaaGreat
namespace Go.Proofs.YtoindmahilbalaaGreat
open Abs
theorem frS_snoc (m : List Str) (x : Str) : frS (m ++ [x]) (m.length + 1) = frS m m.length ++ [(9, 1, (insAll blt (m ++ [x])).length)] := by
  have h1 : (m ++ [x]).length = m.length + 1 := by simp
  rw [frS_succ]
  congr 1
  · unfold frS
    refine List.map_congr_left fun k hk => ?_
    have : k ≤ m.length := by have := List.mem_range.1 hk; omega
    simp only [accS, List.take_append_of_le_length this]
  · rw [accS, ← h1, List.take_length]
theorem ins_snoc (m : List Str) (x : Str) : insAll blt (m ++ [x]) = ins blt x false (insAll blt m) := by
  have h := insAll_take_succ (lt := blt) (l := m ++ [x]) (i := m.length) [] (by simp)
  rw [List.take_of_length_le (by simp), List.take_append_of_le_length (Nat.le_refl _), List.take_length] at h
  rw [h]; simp
def vs (l : List Str) : List Str := l.filter varF
theorem vs_yes {l : List Str} {i : Nat} (hi : i < l.length) (h : varF (l.getD i []) = true) : vs (l.take (i + 1)) = vs (l.take i) ++ [l.getD i []] := by
  rw [take_succ' [] hi, vs, List.filter_append]
  simp only [List.filter_cons, h]; simp [vs]
theorem vs_no {l : List Str} {i : Nat} (hi : i < l.length) (h : varF (l.getD i []) = false) : vs (l.take (i + 1)) = vs (l.take i) := by
  rw [take_succ' [] hi, vs, List.filter_append]
  simp only [List.filter_cons, h]; simp [vs]
theorem vs_len (l : List Str) (i : Nat) : (vs (l.take i)).length ≤ l.length := by
  refine Nat.le_trans (List.length_filter_le _ _) ?_
  rw [List.length_take]; omega
theorem insAll_le (l : List Str) : (insAll blt l).length ≤ l.length := insAll_len l
theorem own_row {mo : Bool} {P : Program} {f : Nat} {args : List AV} {F : Fr} {l : List Str} {k : Nat} (hk : F[k]? = some (9, 1, l.length)) (h : Abs.Ret mo P f args (.list (some k) (strs l)) F) : Abs.Own mo P f args (strT l) := by
  refine h.own [k] ?_ (by simp)
  exact .l _ _ _ k (strs l) (by simpa using hk) (by simp) (fun e he => by obtain ⟨s, _, rfl⟩ := List.mem_map.1 he; rfl) (strs_sz _) (own_strs F l) .nil
theorem sVarsOf.ret (f : VPattern) (h : tPattern.size f ≤ 1048576) : sVarsOf.Ret [.agg (oldL (tPattern.q f))] (.list (some (vs f.2).length) (strs (insAll blt (vs f.2)))) (frS (vs f.2) (vs f.2).length) := by
  refine sVarsOf.ir.of rfl ?_
  have h : tFct.size f ≤ 1048576 := h
  rw [tFct_size, tStrs_size] at h
  repeat' first
    | (conv => whnf
       first | refine Need.mk rfl ?_)
  refine ALoop.mk Nat (fun i => ⟨[(1, .bptr 0 0), (3, .list (some (vs (f.2.take i)).length) (strs (insAll blt (vs (f.2.take i))))), (4, .val (.int .i64 i))], [.cells .var (oldL (tPattern.q f))], frS (vs (f.2.take i)) (vs (f.2.take i)).length⟩) (fun i => i ≤ f.2.length) (fun i => f.2.length - i) ⟨0, Nat.zero_le _, ?_⟩ (fun i hi => ?_)
  · repeat' first
      | exact trivial | refine wl_ ?_ ?_ ?_ ?_ | refine And.intro ?_ ?_ | exact ble_ | refine fr1 ?_ | refine AV.int_congr ?_ | refine AV.list_congr ?_ | (apply rfl)
  have hlen := vs_len f.2 i
  have hil := insAll_le (vs (f.2.take i))
  repeat' first
    | (conv => whnf
       first | refine Need.mk rfl ?_ | refine Ix.strsF rfl ?_ | refine Fork.dec (fun _ => ?_) (fun _ => ?_) | refine Fork.mk (fun _ => ?_) (fun _ => ?_) | refine Round.mk ?_ | refine Final.mk ?_ ?_ | refine ACall.scalA _ _ (sIsVar.ret _ ?_) rfl ?_ | refine ACall.mkStrs _ _ (sPut.ret _ _ ?_) (by repeat' first | exact SeesL.nil | refine SeesL.cons ?_ ?_ | exact SeesB.of0 (Sees0.val _) | exact SeesB.of0 (Sees0.str _) | exact SeesB.of0 (Sees0.olds _ _) | exact SeesB.of0 (Sees0.old _) | exact SeesB.of0 (Sees0.oldagg _) | exact SeesB.of0 Sees0.nil | exact Sees0.val _ | exact Sees0.str _ | exact Sees0.olds _ _ | exact Sees0.old _ | exact Sees0.oldagg _ | exact Sees0.nil | exact SeesB.of0 (Sees0.any _) | assumption | exact sees_gv _ _ _ (by assumption) (by first | assumption | exact BoxIn.last _ _ | exact BoxIn.more (BoxIn.last _ _) _) | refine SeesB.agg ?_ | refine Sees0.agg ?_ | exact SeesB.of0 (Sees0.clo SeesL.nil SeesL.nil) | exact Sees0.clo SeesL.nil SeesL.nil | exact SeesB.of0 (Sees0.list rfl) | exact Sees0.list rfl) ?_)
  all_goals try simp only [length_rows, length_strs, length_oldLL, List.length_map, Int.toNat_natCast] at *
  · have := str_le (l := f.2) (i := i) (by omega); omega
  · omega
  · rename_i h1 h2
    refine ⟨i + 1, by omega, ?_, by omega⟩
    have hs : (vs (f.2.take i) ++ [f.2.getD i []]).length = (vs (f.2.take i)).length + 1 := by simp
    repeat' first
      | exact trivial | refine wl_ ?_ ?_ ?_ ?_ | refine And.intro ?_ ?_ | exact ble_ | refine AV.int_congr ?_ | (apply rfl)
    · show AV.list (some (frS (vs (f.2.take i)) (vs (f.2.take i)).length).length) (strs (ins blt (f.2.getD i []) false (insAll blt (vs (f.2.take i))))) = _
      rw [vs_yes (by omega) h1, ins_snoc, frS_len, hs]
    · rw [wrap64 (by omega) (by omega)]; rfl
    · rw [vs_yes (by omega) h1, hs, frS_snoc, ins_snoc]
  · rename_i h1 h2
    refine ⟨i + 1, by omega, ?_, by omega⟩
    repeat' first
      | exact trivial | refine wl_ ?_ ?_ ?_ ?_ | refine And.intro ?_ ?_ | exact ble_ | refine AV.int_congr ?_ | (apply rfl)
    · rw [vs_no (by omega) h1] <;> rfl
    · rw [wrap64 (by omega) (by omega)]; rfl
    · rw [vs_no (by omega) h1]
  · rw [List.take_of_length_le (by omega)]
  · rw [List.take_of_length_le (by omega)]
theorem sVarsOf.own (f : VPattern) (h : tPattern.size f ≤ 1048576) : sVarsOf.Own [.agg (oldL (tPattern.q f))] (strT (insAll blt (vs f.2))) := own_row (by simp [frS, accS]) (sVarsOf.ret f h)
theorem vs_sz : ∀ l : List Str, (vs l).length ≤ listSize Ty.str l
  | [] => Nat.le_refl _
  | x :: l => by
    have ih := vs_sz l
    have e : listSize Ty.str (x :: l) = x.length + listSize Ty.str l := rfl
    rw [vs, List.filter_cons, e]
    split
    · rename_i hv
      have : 1 < x.length := by
        unfold varF at hv
        simp only [Bool.and_eq_true, decide_eq_true_eq] at hv
        omega
      rw [List.length_cons]
      have ih : (List.filter varF l).length ≤ _ := ih
      omega
    · have ih : (List.filter varF l).length ≤ _ := ih
      omega
theorem pvarsAmong.ret (l : List Str) (h : l.length ≤ 2097152) (hz : listSize Ty.str l ≤ 1048576) : pvarsAmong.Ret [.list none (strs l)] (.list (some 1) (strs (insAll blt (vs l)))) [(9, 1, (vs l).length), (9, 1, (insAll blt (vs l)).length)] := by
  refine pvarsAmong.ir.of rfl ?_
  repeat' first
    | (conv => whnf
       first | refine Need.mk rfl ?_)
  refine ALoop.mk Nat (fun i => ⟨[(0, .list none (strs l)), (3, .list (some 0) (strs (vs (l.take i)))), (7, .list none (strs l)), (8, .val (.int .i64 l.length)), (9, .val (.int .i64 i))], [], [(9, 1, (vs (l.take i)).length)]⟩) (fun i => i ≤ l.length) (fun i => l.length - i) ⟨0, Nat.zero_le _, ?_⟩ (fun i hi => ?_)
  · repeat' first
      | exact trivial | refine wl_ ?_ ?_ ?_ ?_ | refine And.intro ?_ ?_ | with_reducible rfl | exact ble_ | refine fr1 ?_ | refine AV.int_congr ?_ | refine AV.list_congr ?_ | (apply rfl)
    simp
  have hlen := vs_len l i
  have hvz := Nat.le_trans (vs_sz (l.take i)) (listSize_take_le Ty.str l i)
  repeat' first
    | (conv => whnf
       first | refine Need.mk rfl ?_ | refine Need.mk ?_ ?_ | refine Ix.strsF rfl ?_ | refine Fork.dec (fun _ => ?_) (fun _ => ?_) | refine Fork.mk (fun _ => ?_) (fun _ => ?_) | refine Round.mk ?_ | refine Lit.read rfl ?_ | refine Final.mk ?_ ?_ | refine ACall.scalA _ _ (pIsVar.ret _ ?_) rfl ?_ | refine ACall.mkStrs _ _ (pSortedTexts.ret _ ?_) (by repeat' first | exact SeesL.nil | refine SeesL.cons ?_ ?_ | exact SeesB.of0 (Sees0.val _) | exact SeesB.of0 (Sees0.str _) | exact SeesB.of0 (Sees0.olds _ _) | exact SeesB.of0 (Sees0.old _) | exact SeesB.of0 (Sees0.oldagg _) | exact SeesB.of0 Sees0.nil | exact Sees0.val _ | exact Sees0.str _ | exact Sees0.olds _ _ | exact Sees0.old _ | exact Sees0.oldagg _ | exact Sees0.nil | exact SeesB.of0 (Sees0.any _) | assumption | exact sees_gv _ _ _ (by assumption) (by first | assumption | exact BoxIn.last _ _ | exact BoxIn.more (BoxIn.last _ _) _) | refine SeesB.agg ?_ | refine Sees0.agg ?_ | exact SeesB.of0 (Sees0.clo SeesL.nil SeesL.nil) | exact Sees0.clo SeesL.nil SeesL.nil | exact SeesB.of0 (Sees0.list rfl) | exact Sees0.list rfl) ?_)
    | refine AV.list_congr ?_ | refine fr2 ?_ ?_
  all_goals try simp only [length_rows, length_strs, length_oldLL, List.length_map, Int.toNat_natCast] at *
  · have := str_le (l := l) (i := i) (by omega); omega
  · intro c hc; rw [List.mem_singleton.1 hc]; rfl
  · simp only [List.length_singleton]; omega
  · rename_i h1 h2
    refine ⟨i + 1, by omega, ?_, by omega⟩
    repeat' first
      | exact trivial | refine wl_ ?_ ?_ ?_ ?_ | refine And.intro ?_ ?_ | with_reducible rfl | exact ble_ | refine fr1 ?_ | refine AV.int_congr ?_ | refine AV.list_congr ?_ | (apply rfl)
    · rw [vs_yes (by omega) h2, strs_append] <;> rfl
    · rw [wrap64 (by omega) (by omega)]; rfl
    · rw [vs_yes (by omega) h2, List.length_append] <;> rfl
  · rename_i h1 h2
    refine ⟨i + 1, by omega, ?_, by omega⟩
    repeat' first
      | exact trivial | refine wl_ ?_ ?_ ?_ ?_ | refine And.intro ?_ ?_ | with_reducible rfl | exact ble_ | refine fr1 ?_ | refine AV.int_congr ?_ | refine AV.list_congr ?_ | (apply rfl)
    · rw [vs_no (by omega) h2] <;> rfl
    · rw [wrap64 (by omega) (by omega)]; rfl
    · rw [vs_no (by omega) h2]
  · omega
  all_goals rw [List.take_of_length_le (by omega)]
theorem pVarsOf.ret (f : VPattern) (h : tPattern.size f ≤ 1048576) : pVarsOf.Ret [.agg (oldL (tPattern.q f))] (.list (some 1) (strs (insAll blt (vs f.2)))) [(9, 1, (vs f.2).length), (9, 1, (insAll blt (vs f.2)).length)] := by
  refine pVarsOf.ir.of rfl ?_
  have h : tFct.size f ≤ 1048576 := h
  rw [tFct_size, tStrs_size] at h
  repeat' first
    | (conv => whnf
       first | refine Final.mk ?_ rfl | refine ACall.mkR _ _ _ (pvarsAmong.ret _ ?_ ?_) ?_)
    | refine AV.list_congr ?_
  · omega
  · omega
  · exact mapTLL_old _ _
theorem pVarsOf.own (f : VPattern) (h : tPattern.size f ≤ 1048576) : pVarsOf.Own [.agg (oldL (tPattern.q f))] (strT (insAll blt (vs f.2))) := own_row rfl (pVarsOf.ret f h)
theorem notin_succ {l : List Str} {x : Str} {i : Nat} (hi : i < l.length) (h : x ∉ l.take i) (hc : l.getD i [] ≠ x) : x ∉ l.take (i + 1) := by
  rw [take_succ' [] hi, List.mem_append, List.mem_singleton]
  rintro (h1 | h1)
  · exact h h1
  · exact hc h1.symm
theorem in_of {l : List Str} {x : Str} {i : Nat} (hi : i < l.length) (h : l.getD i [] = x) : x ∈ l := by
  rw [← h]; simp [List.getD, hi]
theorem sHasText.ret (l : List Str) (x : Str) (h : l.length ≤ 1048576) : sHasText.Ret [.list none (strs l), .str x] (.val (.bool (decide (x ∈ l)))) [] := by
  refine sHasText.ir.of rfl ?_
  skip
  refine ALoop.mk Nat (fun i => ⟨[(0, .list none (strs l)), (1, .str x), (5, .val (.int .i64 i))], [], []⟩) (fun i => i ≤ l.length ∧ x ∉ l.take i) (fun i => l.length - i) ⟨0, ⟨Nat.zero_le _, by simp⟩, ?_⟩ (fun i hi => ?_)
  · repeat' first
      | exact trivial | refine wl_ ?_ ?_ ?_ ?_ | refine And.intro ?_ ?_ | with_reducible rfl | exact ble_ | refine AV.int_congr ?_ | refine AV.str_congr ?_ | refine AV.list_congr ?_ | (apply rfl)
  repeat' first
    | (conv => whnf
       first | refine Need.mk rfl ?_ | refine Ix.strsF rfl ?_ | refine Fork.dec (fun _ => ?_) (fun _ => ?_) | refine Fork.seq (fun _ => ?_) (fun _ => ?_) | refine Round.mk ?_ | refine FinVal.keep ?_ | refine Final.mk ?_ rfl)
    | refine AV.bool_congr ?_
  all_goals try simp only [length_rows, length_strs, length_oldLL, List.length_map, Int.toNat_natCast] at *
  · rename_i h1 h2
    simp [in_of (by omega) h1]
  · rename_i h1 h2
    refine ⟨i + 1, ⟨by omega, notin_succ (by omega) hi.2 h1⟩, ?_, by omega⟩
    repeat' first
      | exact trivial | refine wl_ ?_ ?_ ?_ ?_ | refine And.intro ?_ ?_ | with_reducible rfl | exact ble_ | refine AV.int_congr ?_ | refine AV.str_congr ?_ | refine AV.list_congr ?_ | (apply rfl)
    rw [wrap64 (by omega) (by omega)]; rfl
  · have := hi.2
    rw [List.take_of_length_le (by omega)] at this
    simp [this]
def idxS : List Str → Str → Int → Int
  | [], _, _ => -1
  | g :: l, f, n => if g = f then n else idxS l f (n + 1)
theorem idxS_drop {l : List Str} {f : Str} {i : Nat} (hi : i < l.length) : idxS (l.drop i) f i = if l.getD i [] = f then (i : Int) else idxS (l.drop (i + 1)) f ((i + 1 : Nat) : Int) := by
  rw [List.drop_eq_getElem_cons hi, idxS]
  simp [List.getD, hi]
theorem idxS_in : ∀ (l : List Str) (x : Str) (n : Int), 0 ≤ n → (0 ≤ idxS l x n ↔ x ∈ l)
  | [], _, _, _ => by simp [idxS]
  | g :: l, x, n, hn => by
    rw [idxS]
    split
    · rename_i h; simp [h, hn]
    · rename_i h; rw [idxS_in l x (n + 1) (by omega)]; simp [Ne.symm h]
theorem slIndex.ret (l : List Str) (x : Str) (h : l.length ≤ 1048576) : slIndex.Ret [.list none (strs l), .str x] (.val (.int .i64 (idxS l x 0))) [] := by
  refine slIndex.ir.of rfl ?_
  skip
  refine ALoop.mk Nat (fun i => ⟨[(0, .list none (strs l)), (1, .str x), (7, .val (.int .i64 l.length)), (8, .val (.int .i64 i))], [], []⟩) (fun i => i ≤ l.length ∧ idxS (l.drop i) x i = idxS l x 0) (fun i => l.length - i) ⟨0, ⟨Nat.zero_le _, rfl⟩, ?_⟩ (fun i hi => ?_)
  · repeat' first
      | exact trivial | refine wl_ ?_ ?_ ?_ ?_ | refine And.intro ?_ ?_ | with_reducible rfl | exact ble_ | refine AV.int_congr ?_ | refine AV.str_congr ?_ | refine AV.list_congr ?_ | (apply rfl)
    simp
  repeat' first
    | (conv => whnf
       first | refine Need.mk rfl ?_ | refine Ix.strsF rfl ?_ | refine Fork.dec (fun _ => ?_) (fun _ => ?_) | refine Fork.seq (fun _ => ?_) (fun _ => ?_) | refine Round.mk ?_ | refine FinVal.keep ?_ | refine Final.mk ?_ rfl)
    | refine AV.int_congr ?_
  all_goals try simp only [length_rows, length_strs, length_oldLL, List.length_map, Int.toNat_natCast] at *
  · rename_i h1 h2
    rw [← hi.2, idxS_drop (by omega), if_pos h2.symm]
  · rename_i h1 h2
    have h3 := hi.2
    rw [idxS_drop (by omega), if_neg (fun e => h2 e.symm)] at h3
    refine ⟨i + 1, ⟨by omega, h3⟩, ?_, by omega⟩
    repeat' first
      | exact trivial | refine wl_ ?_ ?_ ?_ ?_ | refine And.intro ?_ ?_ | with_reducible rfl | exact ble_ | refine AV.int_congr ?_ | refine AV.str_congr ?_ | refine AV.list_congr ?_ | (apply rfl)
    rw [wrap64 (by omega) (by omega)]; rfl
  · rw [← hi.2, List.drop_eq_nil_of_le (by omega)]; rfl
theorem slContains.ret (l : List Str) (x : Str) (h : l.length ≤ 1048576) : slContains.Ret [.list none (strs l), .str x] (.val (.bool (decide (x ∈ l)))) [] := by
  refine slContains.ir.of rfl ?_
  repeat' first
    | (conv => whnf
       first | refine Need.mk rfl ?_ | refine FinVal.keep ?_ | refine Final.mk ?_ rfl | refine ACall.scalA _ _ (slIndex.ret _ _ ?_) rfl ?_)
    | refine AV.bool_congr ?_
  · exact h
  · rw [Bool.eq_iff_iff]; simpa using idxS_in l x 0 (by omega)
end Go.Proofs.YtoindmahilbalaaGreat
namespace Go.Proofs
open Go.RowKit Go.Maps Go.Sort Go.Shelf
def Tryz.keys208_ren : Go.Shelf.Ren := ⟨fun | 7 => 208 | 10 => 223 | n => n, fun | 23 => 180 | 26 => 9 | 3 => 9 | 28 => 203 | 0 => 0 | 27 => 202 | 33 => 112 | 4 => 4 | n => n, fun | n => n⟩
theorem Tryz.keys208 : Go.Proofs.SlLaysZ.n7 Tryz.prog Tryz.keys208_ren := {
  mixed := by kernel_rfl
  f7 := ⟨Tryz.f208.name, by decide, Tryz.func208.trans (congrArg some (by kernel_rfl))⟩
  f10 := ⟨Tryz.f223.name, by decide, Tryz.func223.trans (congrArg some (by kernel_rfl))⟩
  t0 := Tryz.underlying0
  a0 := Tryz.isAgg0
  z0 := Tryz.sizeOf0
  v0 := Tryz.zeroValue0
  t4 := Tryz.underlying4
  a4 := Tryz.isAgg4
  z4 := Tryz.sizeOf4
  v4 := Tryz.zeroValue4
  t23 := Tryz.underlying180
  a23 := Tryz.isAgg180
  z23 := Tryz.sizeOf180
  v23 := Tryz.zeroValue180
  t26 := Tryz.underlying9
  a26 := Tryz.isAgg9
  z26 := Tryz.sizeOf9
  v26 := Tryz.zeroValue9
  t27 := Tryz.underlying202
  a27 := Tryz.isAgg202
  z27 := Tryz.sizeOf202
  v27 := Tryz.zeroValue202
  t28 := Tryz.underlying203
  a28 := Tryz.isAgg203
  z28 := Tryz.sizeOf203
  v28 := Tryz.zeroValue203
  t33 := Tryz.underlying112
  a33 := Tryz.isAgg112
  z33 := Tryz.sizeOf112
  v33 := Tryz.zeroValue112 }
def Tryz.sorted207_ren : Go.Shelf.Ren := ⟨fun | 6 => 207 | 8 => 222 | 9 => 180 | 11 => 233 | 13 => 204 | 12 => 203 | 23 => 220 | 24 => 221 | 14 => 211 | 15 => 212 | 16 => 213 | 17 => 214 | 18 => 215 | 19 => 216 | 20 => 217 | 21 => 218 | 22 => 219 | 25 => 228 | 26 => 229 | 27 => 230 | 28 => 231 | 29 => 232 | 30 => 182 | 31 => 235 | n => n, fun | 26 => 9 | 28 => 203 | 24 => 77 | 0 => 0 | 3 => 3 | 37 => 199 | 48 => 216 | 50 => 218 | 4 => 4 | 40 => 210 | 39 => 209 | 45 => 168 | 5 => 5 | 9 => 9 | 51 => 219 | 55 => 223 | 57 => 226 | 58 => 227 | 33 => 112 | n => n, fun | n => n⟩
theorem Tryz.sorted207 : Go.Proofs.SlLaysZ.n6 Tryz.prog Tryz.sorted207_ren := {
  mixed := by kernel_rfl
  f6 := ⟨Tryz.f207.name, by decide, Tryz.func207.trans (congrArg some (by kernel_rfl))⟩
  f8 := ⟨Tryz.f222.name, by decide, Tryz.func222.trans (congrArg some (by kernel_rfl))⟩
  f11 := ⟨Tryz.f233.name, by decide, Tryz.func233.trans (congrArg some (by kernel_rfl))⟩
  t0 := Tryz.underlying0
  a0 := Tryz.isAgg0
  z0 := Tryz.sizeOf0
  v0 := Tryz.zeroValue0
  t24 := Tryz.underlying77
  a24 := Tryz.isAgg77
  z24 := Tryz.sizeOf77
  v24 := Tryz.zeroValue77
  t26 := Tryz.underlying9
  a26 := Tryz.isAgg9
  z26 := Tryz.sizeOf9
  v26 := Tryz.zeroValue9
  t28 := Tryz.underlying203
  a28 := Tryz.isAgg203
  z28 := Tryz.sizeOf203
  v28 := Tryz.zeroValue203
  i26 := by kernel_rfl }
def Tryz.sort180_ren : Go.Shelf.Ren := ⟨fun | 6 => 180 | 8 => 204 | 9 => 203 | 19 => 220 | 20 => 221 | 21 => 211 | 22 => 212 | 23 => 213 | 24 => 214 | 25 => 215 | 26 => 216 | 27 => 217 | 28 => 218 | 29 => 219 | 36 => 228 | 31 => 229 | 32 => 230 | 37 => 231 | 38 => 232 | 39 => 182 | 41 => 235 | n => n, fun | 27 => 77 | 29 => 9 | 3 => 3 | 32 => 199 | 26 => 77 | 0 => 0 | 44 => 216 | 46 => 218 | 4 => 4 | 36 => 210 | 35 => 209 | 41 => 168 | 5 => 5 | 9 => 9 | 53 => 219 | 57 => 223 | 63 => 226 | 64 => 227 | n => n, fun | n => n⟩
theorem Tryz.sort180 : Go.Proofs.SlLaysM.n6 Tryz.prog Tryz.sort180_ren := {
  mixed := by kernel_rfl
  f6 := ⟨Tryz.f180.name, by decide, Tryz.func180.trans (congrArg some (by kernel_rfl))⟩
  f8 := Tryz.func204.trans (congrArg some (by kernel_rfl))
  f9 := ⟨Tryz.f203.name, by decide, Tryz.func203.trans (congrArg some (by kernel_rfl))⟩
  f19 := Tryz.func220.trans (congrArg some (by kernel_rfl))
  f20 := Tryz.func221.trans (congrArg some (by kernel_rfl))
  f21 := ⟨Tryz.f211.name, by decide, Tryz.func211.trans (congrArg some (by kernel_rfl))⟩
  f22 := ⟨Tryz.f212.name, by decide, Tryz.func212.trans (congrArg some (by kernel_rfl))⟩
  f23 := ⟨Tryz.f213.name, by decide, Tryz.func213.trans (congrArg some (by kernel_rfl))⟩
  f24 := ⟨Tryz.f214.name, by decide, Tryz.func214.trans (congrArg some (by kernel_rfl))⟩
  f25 := ⟨Tryz.f215.name, by decide, Tryz.func215.trans (congrArg some (by kernel_rfl))⟩
  f26 := ⟨Tryz.f216.name, by decide, Tryz.func216.trans (congrArg some (by kernel_rfl))⟩
  f27 := ⟨Tryz.f217.name, by decide, Tryz.func217.trans (congrArg some (by kernel_rfl))⟩
  f28 := ⟨Tryz.f218.name, by decide, Tryz.func218.trans (congrArg some (by kernel_rfl))⟩
  f29 := ⟨Tryz.f219.name, by decide, Tryz.func219.trans (congrArg some (by kernel_rfl))⟩
  f31 := Tryz.func229.trans (congrArg some (by kernel_rfl))
  f32 := Tryz.func230.trans (congrArg some (by kernel_rfl))
  f36 := ⟨Tryz.f228.name, by decide, Tryz.func228.trans (congrArg some (by kernel_rfl))⟩
  f37 := ⟨Tryz.f231.name, by decide, Tryz.func231.trans (congrArg some (by kernel_rfl))⟩
  f38 := ⟨Tryz.f232.name, by decide, Tryz.func232.trans (congrArg some (by kernel_rfl))⟩
  f39 := ⟨Tryz.f182.name, by decide, Tryz.func182.trans (congrArg some (by kernel_rfl))⟩
  f41 := ⟨Tryz.f235.name, by decide, Tryz.func235.trans (congrArg some (by kernel_rfl))⟩
  t0 := Tryz.underlying0
  a0 := Tryz.isAgg0
  z0 := Tryz.sizeOf0
  v0 := Tryz.zeroValue0
  t3 := Tryz.underlying3
  a3 := Tryz.isAgg3
  z3 := Tryz.sizeOf3
  v3 := Tryz.zeroValue3
  t4 := Tryz.underlying4
  a4 := Tryz.isAgg4
  z4 := Tryz.sizeOf4
  v4 := Tryz.zeroValue4
  t5 := Tryz.underlying5
  a5 := Tryz.isAgg5
  z5 := Tryz.sizeOf5
  v5 := Tryz.zeroValue5
  t9 := Tryz.underlying9
  a9 := Tryz.isAgg9
  z9 := Tryz.sizeOf9
  v9 := Tryz.zeroValue9
  t26 := Tryz.underlying77
  a26 := Tryz.isAgg77
  z26 := Tryz.sizeOf77
  v26 := Tryz.zeroValue77
  t27 := Tryz.underlying77
  a27 := Tryz.isAgg77
  z27 := Tryz.sizeOf77
  v27 := Tryz.zeroValue77
  t29 := Tryz.underlying9
  a29 := Tryz.isAgg9
  z29 := Tryz.sizeOf9
  v29 := Tryz.zeroValue9
  t32 := Tryz.underlying199
  a32 := Tryz.isAgg199
  z32 := Tryz.sizeOf199
  v32 := Tryz.zeroValue199
  t35 := Tryz.underlying209
  a35 := Tryz.isAgg209
  z35 := Tryz.sizeOf209
  v35 := Tryz.zeroValue209
  t36 := Tryz.underlying210
  a36 := Tryz.isAgg210
  z36 := Tryz.sizeOf210
  v36 := Tryz.zeroValue210
  t41 := Tryz.underlying168
  a41 := Tryz.isAgg168
  z41 := Tryz.sizeOf168
  v41 := Tryz.zeroValue168
  t44 := Tryz.underlying216
  a44 := Tryz.isAgg216
  z44 := Tryz.sizeOf216
  v44 := Tryz.zeroValue216
  t46 := Tryz.underlying218
  a46 := Tryz.isAgg218
  z46 := Tryz.sizeOf218
  v46 := Tryz.zeroValue218
  t53 := Tryz.underlying219
  a53 := Tryz.isAgg219
  z53 := Tryz.sizeOf219
  v53 := Tryz.zeroValue219
  t57 := Tryz.underlying223
  a57 := Tryz.isAgg223
  z57 := Tryz.sizeOf223
  v57 := Tryz.zeroValue223
  t63 := Tryz.underlying226
  a63 := Tryz.isAgg226
  z63 := Tryz.sizeOf226
  v63 := Tryz.zeroValue226
  t64 := Tryz.underlying227
  a64 := Tryz.isAgg227
  z64 := Tryz.sizeOf227
  v64 := Tryz.zeroValue227 }
theorem Tryz.sorts207 (m : Nat) : AnyZ.SortsIn Tryz.prog Tryz.sorted207_ren Fence.wide m :=
  ⟨fun blk off cap ss W hH hblk hsz => callsIn_wide.2 (AnyM.slices_Sort_string Tryz.sort180 blk off cap ss W hH hblk hsz),
   fun p cap W => callsIn_wide.2 (AnyM.slices_Sort_string_none Tryz.sort180 p cap W)⟩
set_option maxHeartbeats 1000000 in
theorem Tryz.sortedKeysAt {H : Type} (c b nn : Nat) (D0 : DataW H) (R : Value → Option (DataW H × List MemPlace)) (w : World) (hcs : c < w.heap.size) (hc : w.cell? ⟨c, 0, none⟩ = some (.map (some b))) (hown : w.ownsMap Tryz.prog 9 R b nn D0) (hmax : Maps.size D0 ≤ maxLen) (hbytes : Maps.size D0 * 16 ≤ 140737488355328) :
    CallsIn Fence.wide 5 Tryz.prog 207 #[.func (.func 223) #[] #[.pointer (some ⟨c, 0, none⟩)]] w fun e w' => ∃ (v : Value) (ss : List (List UInt8)), e = .returned v ∧ ss.Perm (strKeys D0) ∧
      w'.ownsRow w.heap.size 9 1 v ss.length ((ss.mergeSort (fun x y => decide (x ≤ y))).map encStr) ∧ (v = .slice none 0 0 ↔ ss = []) ∧ Below w.heap.size w w' := by
  have hseq : SeqGives Fence.wide 2 Tryz.prog 223 #[.pointer (some ⟨c, 0, none⟩)] encStr (fun ss => ss.Perm (strKeys D0)) (Maps.size D0) w :=
    AnyZ.keys_gives (ρ := Tryz.keys208_ren) { Tryz.keys208 with } Fence.wide _ trivial rfl (by omega) c b nn D0 w hcs hc hown
  exact AnyZ.sorted_in Tryz.sorted207 Fence.wide 5 trivial trivial trivial trivial rfl (by omega) (Tryz.sorts207 _) (enters_of Tryz.func180 (by kernel_rfl) rfl) 223 #[.pointer (some ⟨c, 0, none⟩)] trivial (enters_of Tryz.func223 (by kernel_rfl) rfl) _ _ hmax hbytes _ hseq
end Go.Proofs
namespace Go.Proofs.YtoindmahilbalaaGreat
open Abs Go.RowKit
theorem strs_get2 {l : List Str} {i j : Nat} {e : List AV} {c : AV} (hi : (strs l)[i]? = some e) (hj : e[j]? = some c) : ∃ s, l[i]? = some s ∧ j = 0 ∧ c = .str s := by
  rw [strs_eq, List.getElem?_map] at hi
  obtain ⟨s, hs, rfl⟩ := Option.map_eq_some_iff.1 hi
  cases j with
  | zero => simp at hj; exact ⟨s, hs, rfl, hj.symm⟩
  | succ j => simp at hj
theorem lent_strs {T : TypeId} {w w' : World} {F : Nat → Nat} {box0 : List BId} {b0 : List ABox} {Φ : AV → List ABox → Fr → Prop} {v : Value} {l : List Str} (hd : noDead b0 = true)
    (hout : ∀ b, w.heap.size ≤ b → F b = 0) (hbl : box0.length = b0.length) (hbi : ∀ (j b c : Nat), box0[j]? = some (.blk b c) → b < w.heap.size ∧ (live b0 j → F b = 0))
    (hbj : ∀ (i j b c c' : Nat), box0[i]? = some (.blk b c) → box0[j]? = some (.blk b c') → live b0 i → live b0 j → i = j) (hB : BoxesOk w.heap.size w F [] [] box0 b0)
    (hrow : w'.ownsRow w.heap.size T 1 v l.length (l.map encStr)) (hw : Below w.heap.size w w') (hΦ : Φ (.list (some 0) (strs l)) b0 [(T, 1, l.length)]) :
    ∃ (u : Value) (F' : Nat → Nat) (box1 : List BId) (tok : List (Option Nat)) (frs : Fr) (r : AV) (b1 : List ABox), Φ r b1 frs ∧ Ending.returned v = .returned u ∧ Keep false (mask b0 box0) w w' ∧ (∀ b, b < w.heap.size → F' b = F b) ∧ (∀ b, w'.heap.size ≤ b → F' b = 0) ∧
      (∀ (j : Nat) d, box0[j]? = some d → box1[j]? = some d) ∧ box1.length = b1.length ∧
      (∀ (j b c : Nat), box0.length ≤ j → box1[j]? = some (.blk b c) → (w.heap.size ≤ b ∨ ∃ i : Nat, live b0 i ∧ box0[i]? = some (.blk b c)) ∧ b < w'.heap.size) ∧
      (∀ (j b c : Nat), box1[j]? = some (.blk b c) → live b1 j → (box0.length ≤ j ∨ live b0 j) → F' b = 0) ∧
      (∀ (i j b c c' : Nat), box1[i]? = some (.blk b c) → box1[j]? = some (.blk b c') → live b1 i → live b1 j → (box0.length ≤ i ∨ live b0 i) → (box0.length ≤ j ∨ live b0 j) → i = j) ∧
      (∀ (j : Nat) d x, box1[j]? = some d → b1[j]? = some x → (box0.length ≤ j ∨ live b0 j) → BoxOk w.heap.size w' F' [] [] box1 d x) ∧
      tok.length = frs.length ∧ (∀ (k b : Nat), tok[k]? = some (some b) → w.heap.size ≤ b ∧ b < w'.heap.size) ∧ (∀ (k l b : Nat), tok[k]? = some (some b) → tok[l]? = some (some b) → k = l) ∧
      (∀ (k b j c : Nat), tok[k]? = some (some b) → box1[j]? = some (.blk b c) → ¬ live b1 j) ∧ Rep w.heap.size w' F' tok frs box1 r u := by
  have hlv := noDead_live hd
  have hk : Keep false (mask b0 box0) w w' := ⟨(fun h => nomatch h), hw.os, hw.tape, hw.output, hw.size, fun k hk _ => hw.block k hk⟩
  obtain ⟨a, cap, hv, hcap, hnew, hne⟩ : ∃ (a : Option Addr) (cap : Nat), v = .slice a l.length cap ∧ l.length ≤ cap ∧ (∀ g, a.map (·.block) = some g → w.heap.size ≤ g ∧ g < w'.heap.size) ∧ (l ≠ [] → ∃ g cur, a = some ⟨g, 0, none⟩ ∧ w'.heap[g]? = some (.cells cur T (0, 0)) ∧ cur.toList.take l.length = l.map encStr) := by
    rcases hrow.2 with ⟨hv, hn⟩ | ⟨g, cap, cur, hv, hbase, hh, h1, h2, h3, h4⟩
    · have hl : l = [] := List.eq_nil_of_length_eq_zero hn
      subst hl
      exact ⟨none, 0, hv, Nat.le_refl _, by simp, fun h => (h rfl).elim⟩
    · refine ⟨some ⟨g, 0, none⟩, cap, hv, h1, fun b hb => ?_, fun _ => ⟨g, cur, rfl, hh, by simpa using h4⟩⟩
      cases hb
      exact ⟨hbase, (Array.getElem?_eq_some_iff.1 hh).1⟩
  subst hv
  obtain ⟨F', hF'⟩ : ∃ F' : Nat → Nat, ∀ b, F' b = if a.map (·.block) = some b then l.length else F b := ⟨_, fun _ => rfl⟩
  refine ⟨_, F', box0, [a.map (·.block)], [(T, 1, l.length)], _, b0, hΦ, rfl, hk, fun b hb => ?_, fun b hb => ?_, fun _ _ h => h, hbl, fun j b c h1 h2 => ?_, fun j b c h1 h2 _ => ?_, fun i j b c c' h1 h2 h3 h4 _ _ => hbj i j b c c' h1 h2 h3 h4, fun j d x hd' hx _ => ?_, rfl, fun k b hkb => ?_, fun k q b h1 h2 => ?_, fun k b j c h1 h2 => ?_, ?_⟩
  · rw [hF']; split
    · rename_i h; have := (hnew b h).1; omega
    · rfl
  · rw [hF']; split
    · rename_i h; have := (hnew b h).2; omega
    · exact hout b (Nat.le_trans hw.size hb)
  · have := getElem?_lt h2; omega
  · have := hbi j b c h1
    rw [hF']; split
    · rename_i h; have := (hnew b h).1; omega
    · exact this.2 (hlv j)
  · refine (hB j d x hd' hx).later (F := F) ⟨fun b i hi => ?_, fun b => ?_, fun k t s n h => by simp at h⟩ (fun _ _ h => h) (fun b c he _ => hw.block b (hbi j b c (he ▸ hd')).1)
    · have hlt : b < w.heap.size := by
        rcases Nat.lt_or_ge b w.heap.size with h | h
        · exact h
        · rw [hout b h] at hi; omega
      exact World.cell?_of_block (w := w) (hw.block b hlt)
    · rw [hF']; split
      · rename_i h; rw [hout b (hnew b h).1]; exact Nat.zero_le _
      · exact Nat.le_refl _
  · cases k with
    | zero => simp at hkb; exact hnew b (by simpa using hkb)
    | succ k => simp at hkb
  · cases k <;> cases q <;> simp at h1 h2 ⊢
  · cases k with
    | zero => simp at h1; have := (hbi j b c h2).1; have := (hnew b (by simpa using h1)).1; omega
    | succ k => simp at h1
  · have hlen : (strs l).length = l.length := length_strs l
    rw [← hlen]
    have hcell : ∀ i s, l[i]? = some s → ∃ g, a = some ⟨g, 0, none⟩ ∧ w'.cell? ⟨g, i, none⟩ = some (mkS s) := fun i s hs => by
      obtain ⟨g, cur, hg, hh, ht⟩ := hne (by rintro rfl; simp at hs)
      refine ⟨g, hg, ?_⟩
      have h1 : (cur.toList.take l.length)[i]? = some (mkS s) := by rw [ht, List.getElem?_map, hs]; rfl
      rw [List.getElem?_take, if_pos (getElem?_lt hs)] at h1
      simp [World.cell?, hh]
      simpa using h1
    refine .list (some 0) (strs l) a cap 1 ((a.map (·.block)).getD 0) 0 (fun i _ => mkS (l.getD i [])) (by omega) (fun hx => ?_) (fun e he => ?_) (fun hx => ?_) (fun i e j c hi hj => ?_) (fun i e j c hi hj => ?_) (fun k hk' => ?_)
    · obtain ⟨g, cur, hg, _, _⟩ := hne (by rintro rfl; exact hx rfl)
      rw [hg]; rfl
    · rw [strs_eq] at he; obtain ⟨s, _, rfl⟩ := List.mem_map.1 he; rfl
    · obtain ⟨g, cur, hg, _, _⟩ := hne (by rintro rfl; exact hx rfl)
      rw [hF', hg]; simp
    · obtain ⟨s, hs, rfl, rfl⟩ := strs_get2 hi hj
      obtain ⟨g, hg, hc⟩ := hcell i s hs
      have e1 : l.getD i [] = s := by simp [List.getD, hs]
      simp only [hg, Option.map_some, Option.getD_some, Nat.zero_add, Nat.mul_one, Nat.add_zero, e1]
      exact ⟨hc, rfl⟩
    · obtain ⟨s, hs, rfl, rfl⟩ := strs_get2 hi hj
      have e1 : l.getD i [] = s := by simp [List.getD, hs]
      simp only [e1]; exact .str s
    · cases hk'
      refine ⟨T, 1, (strs l).length, rfl, Nat.le_refl _, fun _ => ⟨rfl, ⟨l.map encStr, ?_⟩, rfl, fun b hb => ?_⟩⟩
      · rw [hlen]; exact hrow
      · rw [hF', if_pos hb]; simp [hlen]
section
open Go.WideElems (rd rg Fit rg_of)
theorem rd_at {P : Program} {k e : TypeId} {es : Array MapEntry} {clock : Nat} {m : List (Str × Str)} (hk : P.underlying k = some .string) (he : P.underlying e = some .string) (h : MapIs es clock m) {j : Nat} {x : MapEntry} (hx : es.toList[j]? = some x) :
    ∃ p, m[j]? = some p ∧ rd (H := Unit) P k (plainElem P e) x = some (.string p.1, .lit (.string p.2)) := by
  obtain ⟨p, hp, h1, h2⟩ := h.get hx
  obtain ⟨l1, l2⟩ := h.len p (List.mem_of_getElem? hp)
  refine ⟨p, hp, ?_⟩
  have e1 : keyOf P k x.key = some (.string p.1) := by
    rw [h1]; exact WideMaps.keyOf_string_mk hk (s := ⟨p.1.toArray⟩) l1
  have e2 : plainElem (H := Unit) P e x.val = some (.lit (.string p.2), []) := by
    rw [h2]; exact plainElem_string he (s := ⟨p.2.toArray⟩) l2
  simp [rd, e1, e2]
theorem map_owns {P : Program} {k e : TypeId} {w : World} {b : Nat} {es : Array MapEntry} {clock : Nat} {m : List (Str × Str)} (hk : P.underlying k = some .string) (he : P.underlying e = some .string) (h : MapIs es clock m) (hb : w.heap[b]? = some (.map es clock)) :
    ∃ D0 : DataW Unit, w.ownsMap P k (plainElem P e) b m.length D0 ∧ Maps.size D0 = m.length ∧ (strKeys D0).Perm (m.map (·.1)) := by
  have hrg : es.toList.map (rg (H := Unit) P k (plainElem P e)) = m.map fun p => (Lit.string p.1, DataW.lit (.string p.2)) := by
    apply List.ext_getElem?
    intro j
    rw [List.getElem?_map, List.getElem?_map]
    cases hx : es.toList[j]? with
    | none =>
      have : m[j]? = none := by
        have hl := h.length
        rw [List.getElem?_eq_none_iff] at hx ⊢
        simp only [Array.length_toList] at hx; omega
      rw [this]; rfl
    | some x =>
      obtain ⟨p, hp, hr⟩ := rd_at hk he h hx
      rw [hp, Option.map_some, Option.map_some, rg_of hr]
  refine ⟨_, ⟨es, clock, hb, ⟨by rw [h.length]; exact h.size, h.stamped, fun x hx => ?_⟩, by rw [h.length]; exact Nat.le_refl _, rfl⟩, ?_, ?_⟩
  · obtain ⟨j, hj⟩ := List.getElem?_of_mem hx
    obtain ⟨p, _, hr⟩ := rd_at hk he h hj
    exact ⟨_, hr⟩
  · rw [hrg]
    show (List.foldr DataW.insert [] _).length = _
    rw [length_sorted, List.length_map]
  · rw [hrg]
    refine ((WideShapes.sorted_perm _).map _).trans ?_
    rw [List.map_map]
    exact List.Perm.refl _
end
theorem slSortedS.lent (b0 : List ABox) (c j : Nat) (m : List (Str × Str)) (hd : noDead b0 = true) (hc : b0[c]? = some (.cells .var [.bmap j])) (hj : b0[j]? = some (.map m)) (hm : m.length ≤ 1048576) :
    Abs.Lent false Tryz.prog 207 b0 [.clo 223 [] [.bptr c 0]] (fun x y z => x = .list (some 0) (strs (srt (m.map (·.1)))) ∧ y = b0 ∧ z = [(9, 1, m.length)]) := by
  rw [Lent_eq]
  refine ⟨by kernel_rfl, fun w F vs box0 hout hbl hbi hbj hB hargs => ?_⟩
  obtain ⟨v0, rfl⟩ : ∃ v0, vs = #[v0] := by
    have := hargs.1
    match vs, this with
    | ⟨[a]⟩, _ => exact ⟨a, rfl⟩
  obtain ⟨h0, _⟩ := Both.cons.1 hargs
  have hbx : ∀ q x, b0[q]? = some x → ∃ d, box0[q]? = some d := fun q x hx => ⟨_, List.getElem?_eq_getElem (by have := getElem?_lt hx; omega)⟩
  obtain ⟨d1, hd1⟩ := hbx c _ hc
  obtain ⟨d2, hd2⟩ := hbx j _ hj
  have o1 := hB c _ _ hd1 hc
  have o2 := hB j _ _ hd2 hj
  cases d2 with
  | nil => exact o2.elim
  | blk bm cm =>
  cases d1 with
  | nil => exact absurd o1 (by simp [BoxOk])
  | blk bc cc =>
  obtain ⟨arr, t, hh, hsz, hcell, _⟩ := o1
  obtain ⟨r1, _⟩ := hcell 0 _ rfl
  obtain ⟨es, clock, hmh, hM⟩ := o2
  have hv : arr.getD 0 undef = .map (some bm) := by
    generalize arr.getD 0 undef = u at r1
    cases r1 with
    | bmap _ b cap hb => rw [hd2] at hb; cases hb; rfl
  have hlt : bc < w.heap.size := (Array.getElem?_eq_some_iff.1 hh).1
  have hcl : w.cell? ⟨bc, 0, none⟩ = some (.map (some bm)) := by
    have h1 : 0 < arr.size := by simp at hsz; omega
    have h2 : arr[0]? = some (.map (some bm)) := by rw [← hv]; simp [Array.getD, h1]
    simp [World.cell?, hh, h2]
  have hv0 : v0 = .func (.func 223) #[] #[.pointer (some ⟨bc, 0, none⟩)] := by
    cases h0 with
    | clo f xs ys vf vc h1 h2 hr1 hr2 =>
      have e1 : vf = #[] := Array.eq_empty_of_size_eq_zero (by simpa using h1.symm)
      obtain ⟨u, rfl⟩ : ∃ u, vc = #[u] := by
        match vc, h2 with
        | ⟨[u]⟩, _ => exact ⟨u, rfl⟩
      have h3 := hr2 0 _ rfl
      obtain ⟨b, cap, hb, hu⟩ := h3.bptr_inv
      rw [hd1] at hb; cases hb
      have : u = .pointer (some ⟨bc, 0, none⟩) := hu
      rw [e1, this]
  obtain ⟨D0, hown, hDs, hperm⟩ := map_owns (P := Tryz.prog) (k := 9) (e := 9) Tryz.underlying9 Tryz.underlying9 hM hmh
  rw [hv0]
  refine (callsIn_wide.1 (Tryz.sortedKeysAt bc bm m.length D0 (plainElem Tryz.prog 9) w hlt hcl hown (by rw [hDs]; unfold maxLen; omega) (by rw [hDs]; omega))).mono ?_
  rintro e w' ⟨v, ss, rfl, hs, hrow, _, hbw⟩
  have hp := hs.trans hperm
  have hl : (srt (m.map (·.1))).length = m.length := by simp [srt]
  have e1 : ss.mergeSort (fun x y => decide (x ≤ y)) = srt (m.map (·.1)) := mergeSort_of_perm hp
  have e2 : ss.length = (srt (m.map (·.1))).length := by rw [hl, hp.length_eq, List.length_map]
  rw [e1, e2] at hrow
  exact lent_strs hd hout hbl hbi hbj hB hrow hbw ⟨rfl, rfl, by rw [hl]⟩
end Go.Proofs.YtoindmahilbalaaGreat
namespace Go.Proofs.YtoindmahilbalaaGreat
open Abs
mutual
theorem old_ok : ∀ (x : Tr) (m : Nat), noTk (old x) = true ∧ inB m (old x)
  | .v _, _ => ⟨rfl, trivial⟩
  | .s _, _ => ⟨rfl, trivial⟩
  | .l _ _ xs, _ => ⟨oldLL_ok xs, trivial⟩
  | .a fs, m => inBL_all (oldL_ok fs m)
  | .p fs, m => inBL_all (oldL_ok fs m)
theorem oldL_ok : ∀ (xs : List Tr) (m : Nat), ∀ c ∈ oldL xs, noTk c = true ∧ inB m c
  | [], _, c, hc => by simp [oldL] at hc
  | x :: xs, m, c, hc => by
    rw [oldL] at hc
    rcases List.mem_cons.1 hc with rfl | hc
    · exact old_ok x m
    · exact oldL_ok xs m c hc
theorem oldLL_ok : ∀ (xs : List (List Tr)), noTkLL (oldLL xs) = true
  | [] => rfl
  | x :: xs => by
    rw [oldLL, noTkLL, (inBL_all (oldL_ok x 0)).1, oldLL_ok xs]; rfl
end
theorem noTk_old (xs : List Tr) : ∀ c ∈ oldL xs, noTk c = true := fun c hc => (oldL_ok xs 0 c hc).1
def PlainC (x : List AV) : Prop := (∀ c ∈ x, noTk c = true) ∧ ∀ m, inB.inBL m x
theorem plainC_old (xs : List Tr) : PlainC (oldL xs) := ⟨noTk_old xs, fun m => (inBL_all (oldL_ok xs m)).2⟩
theorem bindF_lt {b : List VPair} (h : bindF b = true) {j : Nat} (hj : j < b.length) : badB b j = false := by
  cases hb : badB b j with
  | false => rfl
  | true => rw [bindF_no hj hb] at h; cases h
theorem bindF_len {b : List VPair} (h : bindF b = true) : b.length ≤ 6 := by
  rcases Nat.lt_or_ge 6 b.length with h1 | h1
  · rw [bindF_long (by omega)] at h; cases h
  · exact h1
theorem bindF_asc {b : List VPair} (h : bindF b = true) : ∀ (j : Nat), j + 1 < b.length → Op.bytesLess (b.getD j default).1 (b.getD (j + 1) default).1 = true := fun j hj => by
  have := bindF_lt h hj
  unfold badB at this
  simp only [Bool.or_eq_false_iff, Bool.and_eq_false_iff, decide_eq_false_iff_not, Bool.not_eq_false', Nat.add_sub_cancel] at this
  rcases this.2 with h1 | h1
  · omega
  · exact h1
theorem bindF_sorted {b : List VPair} (h : bindF b = true) : ∀ (d i : Nat), i + d + 1 < b.length → Op.bytesLess (b.getD i default).1 (b.getD (i + d + 1) default).1 = true
  | 0, i, hi => bindF_asc h i hi
  | d + 1, i, hi => blt_sto.trans _ _ _ (bindF_sorted h d i (by omega)) (bindF_asc h (i + d + 1) hi)
theorem bindF_apart {b : List VPair} (h : bindF b = true) {i j : Nat} (hij : i < j) (hj : j < b.length) : (b.getD i default).1 ≠ (b.getD j default).1 := fun e => by
  have := bindF_sorted h (j - i - 1) i (by omega)
  rw [show i + (j - i - 1) + 1 = j by omega, e, bl_irrefl] at this
  cases this
theorem mput_bind {b : List VPair} (h : bindF b = true) {i : Nat} (hi : i < b.length) : mput (b.take i) (b.getD i default).1 (b.getD i default).2 = b.take (i + 1) := by
  have hn : ∀ p ∈ b.take i, p.1 ≠ (b.getD i default).1 := fun p hp => by
    obtain ⟨j, hj⟩ := List.getElem?_of_mem hp
    rw [List.getElem?_take] at hj
    split at hj
    · rename_i hji
      have e : b.getD j default = p := by simp [List.getD, hj]
      rw [← e]; exact bindF_apart h hji hi
    · cases hj
  rw [(mget_no hn).2, take_succ' default hi]
theorem pmapOfPairs.lent (x y : List AV) (hx : PlainC x) (hy : PlainC y) (b : List VPair) (h : tPairs.size b ≤ 1048576) (hb : bindF b = true) :
    pmapOfPairs.Lent [.cells .var x, .cells .var y] [.list none (pairs b)] (fun r b1 f1 => r = .bmap 2 ∧ b1 = [.cells .var x, .cells .var y, .map b] ∧ f1 = []) := by
  refine pmapOfPairs.ofL rfl rfl ?_
  rw [tPairs_sz] at h
  skip
  refine ALoop.mk Nat (fun i => ⟨[(0, .list none (pairs b)), (3, .bmap 2), (7, .list none (pairs b)), (8, .val (.int .i64 b.length)), (9, .val (.int .i64 i))], [.cells .var x, .cells .var y, .map (b.take i)], []⟩) (fun i => i ≤ b.length) (fun i => b.length - i) ⟨0, Nat.zero_le _, ?_⟩ (fun i hi => ?_)
  · repeat' first
      | exact trivial | refine wl_ ?_ ?_ ?_ ?_ | refine And.intro ?_ ?_ | with_reducible rfl | exact ble_ | refine AV.int_congr ?_ | refine AV.list_congr ?_ | (apply rfl)
    simp
  repeat' first
    | (conv => whnf
       first | refine Need.mk rfl ?_ | refine Need.mk ⟨rfl, Nat.le_of_ble_eq_true rfl⟩ ?_ | refine nb_ ?_ | refine Need.mk ?_ ?_ | refine Ix.mapF (fun _ => rfl) ?_ | refine Fork.dec (fun _ => ?_) (fun _ => ?_) | refine Round.mk ?_ | refine FinalC.allA ?_)
  all_goals try simp only [length_rows, length_strs, length_oldLL, List.length_map, Int.toNat_natCast] at *
  · have := pr_le (l := b) i
    have h2 : (b.take i).length ≤ b.length := by simp; omega
    unfold maxLen; omega
  · refine ⟨i + 1, by omega, ?_, by omega⟩
    repeat' first
      | exact trivial | refine Weak.mk ?_ ?_ ?_ ?_ (Or.inr ⟨(by repeat' first | exact trivial | exact ble_ | refine And.intro ?_ ?_ | exact hx.2 _ | exact hy.2 _), (by repeat' first | exact trivial | exact ble_ | refine And.intro ?_ ?_ | exact hx.2 _ | exact hy.2 _)⟩) | refine And.intro ?_ ?_ | with_reducible rfl | exact ble_ | refine AV.int_congr ?_ | refine AV.list_congr ?_ | (apply rfl) | refine bx_cons ?_ ?_ | refine bx_map ?_
    · rw [wrap64 (by omega) (by omega)]; rfl
    · show mput (b.take i) (b.getD i default).1 (b.getD i default).2 = _
      rw [mput_bind hb (by omega)]
  · simp [List.take_of_length_le (show b.length ≤ i by omega)]
def turnStep (m : List VPair) (p : Str × Str) : Option (List VPair) :=
  if varF p.1 then (match mget m p.1 with | some v => if v = p.2 then some m else none | none => some (mput m p.1 p.2)) else if p.1 = p.2 then some m else none
def turnS (m : List VPair) : List (Str × Str) → Option (List VPair)
  | [] => some m
  | p :: l => match turnStep m p with | some m' => turnS m' l | none => none
def turnF (m : List VPair) (a x : List Str) : Option (List VPair) := if a.length = x.length then turnS m (a.zip x) else none
theorem step_no {m : List VPair} {t x : Str} (h : varF t = false) (h' : t ≠ x) : turnStep m (t, x) = none := by simp [turnStep, h, h']
theorem step_eq {m : List VPair} {t x : Str} (h : varF t = false) (h' : t = x) : turnStep m (t, x) = some m := by subst h'; simp [turnStep, h]
theorem step_new {m : List VPair} {t x : Str} (h : varF t = true) (h' : mget m t = none) : turnStep m (t, x) = some (mput m t x) := by simp [turnStep, h, h']
theorem step_bad {m : List VPair} {t x v : Str} (h : varF t = true) (h' : mget m t = some v) (h2 : v ≠ x) : turnStep m (t, x) = none := by simp [turnStep, h, h', h2]
theorem step_old {m : List VPair} {t x v : Str} (h : varF t = true) (h' : mget m t = some v) (h2 : v = x) : turnStep m (t, x) = some m := by simp [turnStep, h, h', h2]
theorem zip_drop {a x : List Str} {i : Nat} (h1 : i < a.length) (h2 : i < x.length) : (a.zip x).drop i = (a.getD i [], x.getD i []) :: (a.zip x).drop (i + 1) := by
  have h : i < (a.zip x).length := by simp; omega
  rw [List.drop_eq_getElem_cons h]
  simp [List.getD, h1, h2]
theorem mput_len (m : List VPair) (k v : Str) : (mput m k v).length ≤ m.length + 1 := by
  induction m with
  | nil => simp [mput]
  | cons p m ih =>
    rw [mput]; split
    · simp
    · simp; exact ih
theorem pturnInto.lent (x y : List AV) (hx : PlainC x) (hy : PlainC y) (m : List VPair) (a z : List Str) (ha : a.length + listSize Ty.str a ≤ 1048576) (hz : z.length + listSize Ty.str z ≤ 1048576) (hm : m.length ≤ 1048576) :
    pturnInto.Lent [.cells .var x, .cells .var y, .map m] [.list none (strs a), .list none (strs z), .bmap 2]
      (fun r b1 f1 => ∃ m', r = .val (.bool (turnF m a z).isSome) ∧ b1 = [.cells .var x, .cells .var y, .map m'] ∧ f1 = [] ∧ ∀ m0, turnF m a z = some m0 → m' = m0) := by
  refine pturnInto.ofL rfl rfl ?_
  repeat' first
    | (conv => whnf
       first | refine Need.mk rfl ?_ | refine Fork.bne (fun _ => ?_) (fun _ => ?_) | refine FinalC.allA ?_)
  all_goals try simp only [length_strs] at *
  · rename_i h
    have h : ¬ a.length = z.length := by omega
    exact ⟨m, by simp [turnF, h], by first | rfl | trivial, by first | rfl | trivial, by simp [turnF, h]⟩
  rename_i h
  have h : a.length = z.length := by omega
  refine ALoop.mk (Nat × List VPair) (fun i => ⟨[(0, .list none (strs a)), (1, .list none (strs z)), (2, .bmap 2), (16, .list none (strs a)), (17, .val (.int .i64 a.length)), (18, .val (.int .i64 i.1))], [.cells .var x, .cells .var y, .map i.2], []⟩)
    (fun i => i.1 ≤ a.length ∧ i.2.length ≤ m.length + i.1 ∧ turnS i.2 ((a.zip z).drop i.1) = turnS m (a.zip z)) (fun i => a.length - i.1) ⟨(0, m), ⟨Nat.zero_le _, by simp, rfl⟩, ?_⟩ (fun i hi => ?_)
  · repeat' first
      | exact trivial | refine wl_ ?_ ?_ ?_ ?_ | refine And.intro ?_ ?_ | with_reducible rfl | exact ble_ | refine AV.int_congr ?_ | refine AV.list_congr ?_ | (apply rfl)
    simp
  obtain ⟨i, m'⟩ := i
  obtain ⟨hi, hml, ht⟩ := hi
  simp only at hi hml ht
  have fails : i < a.length → turnStep m' (a.getD i [], z.getD i []) = none → turnF m a z = none := fun hlt hs => by
    rw [zip_drop hlt (by omega), turnS, hs] at ht
    rw [turnF, if_pos h, ← ht]
  have goes : ∀ m'', i < a.length → turnStep m' (a.getD i [], z.getD i []) = some m'' → turnS m'' ((a.zip z).drop (i + 1)) = turnS m (a.zip z) := fun m'' hlt hs => by
    rw [zip_drop hlt (by omega), turnS, hs] at ht
    exact ht
  have hal := str_le' a i
  have hzl := str_le' z i
  repeat' first
    | contradiction
    | (conv => whnf
       first | refine Need.mk rfl ?_ | refine Need.mk ?_ ?_ | refine Ix.strsF rfl ?_ | refine Fork.dec (fun _ => ?_) (fun _ => ?_) | refine Fork.sne (fun _ => ?_) (fun _ => ?_) | refine Fork.neg (fun _ => ?_) (fun _ => ?_) | refine Round.mk ?_ | refine FinalC.allA ?_ | refine ACall.scalA _ _ (pIsVar.ret _ ?_) rfl ?_)
  all_goals try simp only [length_rows, length_strs, length_oldLL, List.length_map, Int.toNat_natCast] at *
  · intro _; unfold maxLen; omega
  · omega
  · rename_i h1 h2 h3
    have hf := fails (by omega) (step_no h2 h3)
    exact ⟨m', by rw [hf]; rfl, by first | rfl | trivial, by first | rfl | trivial, by simp [hf]⟩
  · rename_i h1 h2 h3
    refine ⟨(i + 1, m'), ⟨by simp only; omega, by simp only; omega, goes m' (by omega) (step_eq h2 h3)⟩, ?_, by simp only; omega⟩
    repeat' first
      | exact trivial | refine wl_ ?_ ?_ ?_ ?_ | refine And.intro ?_ ?_ | with_reducible rfl | exact ble_ | refine AV.int_congr ?_ | refine AV.list_congr ?_ | (apply rfl)
    rw [wrap64 (by omega) (by omega)]; rfl
  · unfold maxLen; omega
  · rename_i h1 h2 h3 h4
    have h3 : mget m' (a.getD i []) = none := by simpa using h3
    have hl := mput_len m' (a.getD i []) (z.getD i [])
    refine ⟨(i + 1, mput m' (a.getD i []) (z.getD i [])), ⟨by simp only; omega, by simp only; omega, goes _ (by omega) (step_new h2 h3)⟩, ?_, by simp only; omega⟩
    repeat' first
      | exact trivial | refine wl_ ?_ ?_ ?_ ?_ | refine And.intro ?_ ?_ | with_reducible rfl | exact ble_ | refine AV.int_congr ?_ | refine AV.list_congr ?_ | (apply rfl)
    rw [wrap64 (by omega) (by omega)]; rfl
  · rename_i h1 h2 h3 h4
    obtain ⟨v, hv⟩ := Option.isSome_iff_exists.1 h3
    rw [hv] at h4
    have h4 : v ≠ z.getD i [] := h4
    have hf := fails (by omega) (step_bad h2 hv h4)
    exact ⟨m', by rw [hf]; rfl, by first | rfl | trivial, by first | rfl | trivial, by simp [hf]⟩
  · rename_i h1 h2 h3 h4
    obtain ⟨v, hv⟩ := Option.isSome_iff_exists.1 h3
    rw [hv] at h4
    have h4 : v = z.getD i [] := h4
    refine ⟨(i + 1, m'), ⟨by simp only; omega, by simp only; omega, goes m' (by omega) (step_old h2 hv h4)⟩, ?_, by simp only; omega⟩
    repeat' first
      | exact trivial | refine wl_ ?_ ?_ ?_ ?_ | refine And.intro ?_ ?_ | with_reducible rfl | exact ble_ | refine AV.int_congr ?_ | refine AV.list_congr ?_ | (apply rfl)
    rw [wrap64 (by omega) (by omega)]; rfl
  · have e : (a.zip z).drop i = [] := List.drop_eq_nil_of_le (by simp; omega)
    rw [e, turnS] at ht
    have hf : turnF m a z = some m' := by rw [turnF, if_pos h, ← ht]
    exact ⟨m', by rw [hf]; rfl, by first | rfl | trivial, by first | rfl | trivial, by rw [hf]; intro m0 e; cases e; rfl⟩
def pairsM (m : List VPair) : List VPair := (srt (m.map (·.1))).map fun k => (k, (mget m k).getD [])
theorem srt_len (l : List Str) : (srt l).length = l.length := by simp [srt]
theorem slKeys.lent (x y : List AV) (hx : PlainC x) (hy : PlainC y) (m : List VPair) :
    slKeys.Lent [.cells .var x, .cells .var y, .map m] [.bmap 2] (fun r b1 f1 => r = .clo 223 [] [.bptr 3 0] ∧ b1 = [.cells .var x, .cells .var y, .map m, .cells .var [.bmap 2]] ∧ f1 = []) := by
  refine slKeys.ofL rfl rfl ?_
  repeat' first
    | (conv => whnf
       first | refine Need.mk rfl ?_ | refine Need.mk ?_ ?_ | refine FinalC.allA ?_)
  · exact ⟨rfl, rfl⟩
  · exact ⟨rfl, rfl, rfl⟩
theorem srt_in {l : List Str} {s : Str} (h : s ∈ srt l) : s ∈ l := by simpa [srt] using h
theorem ppairsOfMap.lent (x y : List AV) (hx : PlainC x) (hy : PlainC y) (m : List VPair) (hm : m.length ≤ 1048576) (hl : ∀ p ∈ m, p.1.length ≤ 1048576) :
    Abs.Lent false Tryz.prog 190 [.cells .var x, .cells .var y, .map m] [.bmap 2]
      (fun r b1 f1 => r = .list (some 0) (pairs (pairsM m)) ∧ b1 = [.cells .var x, .cells .var y, .map m, .cells .var [.bmap 2]] ∧ f1 = [(141, 2, m.length), (9, 1, m.length)]) := by
  refine ppairsOfMap.ofL rfl rfl ?_
  have hk := slKeys.lent x y hx hy m
  have hs := slSortedS.lent [.cells .var x, .cells .var y, .map m, .cells .var [.bmap 2]] 3 2 m rfl rfl rfl hm
  have hlen : (srt (m.map (·.1))).length = m.length := by simp [srt]
  have hsl : ∀ i, ((srt (m.map (·.1))).getD i []).length ≤ 1048576 := fun i => by
    rcases Nat.lt_or_ge i (srt (m.map (·.1))).length with h | h
    · have h1 : (srt (m.map (·.1))).getD i [] ∈ srt (m.map (·.1)) := by simp [List.getD, h]
      obtain ⟨p, hp, e⟩ := List.mem_map.1 (srt_in h1)
      rw [← e]; exact hl p hp
    · have : (srt (m.map (·.1))).getD i [] = [] := by simp [List.getD, List.getElem?_eq_none h]
      rw [this]; exact Nat.zero_le _
  generalize hks : srt (m.map (·.1)) = ks at hs hlen hsl
  have hpm : pairsM m = ks.map fun k => (k, (mget m k).getD []) := by rw [pairsM, hks]
  repeat' first
    | (conv => whnf
       first | refine Need.mk rfl ?_ | refine ACall.lentE _ _ _ _ _ (Lent.weak (hk)) (by repeat' first | exact Lends.nil | refine Lends.map _ ?_ | refine Lends.lend _ _ (by first | exact hx.1 | exact hy.1 | exact noTk_old _ | (intro c hc; rw [List.mem_singleton.1 hc]; rfl) | (intro c hc; cases hc; done)) ?_) (by repeat' first | exact SeesL.nil | refine SeesL.cons ?_ ?_ | exact Or.inl ⟨rfl, rfl⟩ | exact Or.inr (Sees0.str _) | exact Or.inr (Sees0.val _) | exact Or.inr (Sees0.olds _ _) | exact Or.inr (Sees0.old _) | exact Or.inr (Sees0.oldagg _)) ?_ | refine ACall.lentS _ _ _ _ _ (hs) (by repeat' first | exact Lends.nil | refine Lends.map _ ?_ | refine Lends.lend _ _ (by first | exact hx.1 | exact hy.1 | exact noTk_old _ | (intro c hc; rw [List.mem_singleton.1 hc]; rfl) | (intro c hc; cases hc; done)) ?_) (by repeat' first | exact SeesL.nil | refine SeesL.cons ?_ ?_ | exact Or.inl ⟨rfl, rfl⟩ | exact Or.inr (Sees0.str _) | exact Or.inr (Sees0.val _) | exact Or.inr (Sees0.olds _ _) | exact Or.inr (Sees0.old _) | exact Or.inr (Sees0.oldagg _)) ?_)
  refine ALoop.mk Nat (fun i => ⟨[(0, .bmap 2), (3, .list (some 0) (pairs ((ks.take i).map fun k => (k, (mget m k).getD [])))), (9, .list (some 1) (strs ks)), (10, .val (.int .i64 ks.length)), (11, .val (.int .i64 i))], [.cells .var x, .cells .var y, .map m, .cells .var [.bmap 2]], [(141, 2, ((ks.take i).map fun k => (k, (mget m k).getD [])).length), (9, 1, m.length)]⟩)
    (fun i => i ≤ ks.length) (fun i => ks.length - i) ⟨0, Nat.zero_le _, ?_⟩ (fun i hi => ?_)
  · repeat' first
      | exact trivial | refine wl_ ?_ ?_ ?_ ?_ | refine And.intro ?_ ?_ | with_reducible rfl | exact ble_ | refine fr2 ?_ ?_ | refine AV.int_congr ?_ | refine AV.list_congr ?_ | (apply rfl)
    simp
  have hkn : i < ks.length → (ks.take (i + 1)).map (fun k => (k, (mget m k).getD [])) = (ks.take i).map (fun k => (k, (mget m k).getD [])) ++ [(ks.getD i [], (mget m (ks.getD i [])).getD [])] := fun h => by
    rw [take_succ' [] h, List.map_append]; rfl
  have hsi := hsl i
  have htl : ((ks.take i).map fun k => (k, (mget m k).getD [])).length ≤ ks.length := by simp; omega
  repeat' first
    | (conv => whnf
       first | refine Need.mk rfl ?_ | refine Need.mk ?_ ?_ | refine Ix.strsF rfl ?_ | refine Fork.dec (fun _ => ?_) (fun _ => ?_) | refine Round.mk ?_ | refine Lit.read rfl ?_ | refine FinalC.allA ?_)
  all_goals try simp only [length_rows, length_strs, length_oldLL, List.length_map, Int.toNat_natCast] at *
  · intro _; unfold maxLen; omega
  · intro c hc; rw [List.mem_singleton.1 hc]; rfl
  · simp only [List.length_singleton]; omega
  · refine ⟨i + 1, by omega, ?_, by omega⟩
    repeat' first
      | exact trivial | refine wl_ ?_ ?_ ?_ ?_ | refine And.intro ?_ ?_ | with_reducible rfl | exact ble_ | refine fr2 ?_ ?_ | refine AV.int_congr ?_ | refine AV.list_congr ?_ | (apply rfl)
    · rw [hkn (by omega)]; exact rows_snoc tPair ((ks.take i).map fun k => (k, (mget m k).getD [])) (ks.getD i [], (mget m (ks.getD i [])).getD [])
    · rw [wrap64 (by omega) (by omega)]; rfl
    · simp only [List.length_take, List.length_singleton]; omega
  · have e : ks.take i = ks := List.take_of_length_le (by omega)
    simp [e, hpm, hlen]
end Go.Proofs.YtoindmahilbalaaGreat
namespace Go.Proofs.YtoindmahilbalaaGreat
open Abs
def setR (v x : Str) : List VPair → List VPair
  | [] => [(v, x)]
  | p :: b => if blt v p.1 then (v, x) :: p :: b else p :: setR v x b
def extF (b : List VPair) (v x : Str) : Option (List VPair) :=
  if bindF b && varF v && atomF x then (if (valF b v).2 && decide ((valF b v).1 = x) then some b else if (valF b v).2 || decide (b.length = 6) then none else some (setR v x b)) else none
def matS (e : List VPair) : List (Str × Str) → Option (List VPair)
  | [] => some e
  | q :: l => if atomF q.1 then (if q.1 = q.2 then matS e l else none) else (match extF e q.1 q.2 with | some e' => matS e' l | none => none)
abbrev AscP (b : List VPair) : Prop := b.Pairwise fun p q => p.1 < q.1
theorem bindF_iff (b : List VPair) : bindF b = true ↔ b.length ≤ 6 ∧ (∀ p ∈ b, varF p.1 = true ∧ atomF p.2 = true) ∧ AscP b := by
  constructor
  · intro h
    refine ⟨bindF_len h, fun p hp => ?_, ?_⟩
    · obtain ⟨j, hj⟩ := List.getElem?_of_mem hp
      have hb := bindF_lt h (getElem?_lt hj)
      have e : b.getD j default = p := by simp [List.getD, hj]
      unfold badB at hb
      rw [e] at hb
      simp only [Bool.or_eq_false_iff, Bool.not_eq_false'] at hb
      exact hb.1
    · rw [AscP, List.pairwise_iff_getElem]
      intro i j hi hj hij
      have := bindF_sorted h (j - i - 1) i (by omega)
      rw [show i + (j - i - 1) + 1 = j by omega] at this
      have h2 : blt (b.getD i default).1 (b.getD j default).1 = true := this
      rw [blt_eq, decide_eq_true_eq] at h2
      simpa [List.getD, hi, hj] using h2
  · rintro ⟨h1, h2, h3⟩
    rw [bindF_yes (fun j hj => ?_)]
    · simp; omega
    · have hm : b.getD j default ∈ b := by simp [List.getD, hj]
      obtain ⟨v1, v2⟩ := h2 _ hm
      unfold badB
      rw [v1, v2]
      simp only [Bool.not_true, Bool.false_or, Bool.and_eq_false_iff, decide_eq_false_iff_not, Bool.not_eq_false']
      rcases Nat.eq_zero_or_pos j with rfl | hp
      · left; omega
      · right
        have h4 := List.pairwise_iff_getElem.1 h3 (j - 1) j (by omega) hj (by omega)
        have : blt (b.getD (j - 1) default).1 (b.getD j default).1 = true := by
          rw [blt_eq, decide_eq_true_eq]
          have hj1 : j - 1 < b.length := by omega
          simpa [List.getD, hj, hj1] using h4
        exact this
theorem atom_novar {t : Str} (h : atomF t = true) : varF t = false := by
  cases t with
  | nil => rfl
  | cons c t =>
    have hc : alnum c = true := by
      unfold atomF at h
      rw [List.all_cons, Bool.and_eq_true, Bool.and_eq_true] at h
      exact h.1.1
    cases hv : varF (c :: t) with
    | false => rfl
    | true =>
      unfold varF at hv
      simp only [Bool.and_eq_true, beq_iff_eq, List.getD_cons_zero] at hv
      have h63 : c.toNat = 63 := by have := hv.1.2; omega
      have : c = 63 := UInt8.toNat_inj.1 h63
      rw [this] at hc
      exact absurd hc (by decide)
theorem lookV_mem : ∀ {b : List VPair} {k v : Str}, lookV b k = some v → (k, v) ∈ b
  | [], _, _, h => by cases h
  | p :: b, k, v, h => by
    rw [lookV] at h
    split at h
    · rename_i e; cases h; subst e; simp
    · exact List.mem_cons_of_mem _ (lookV_mem h)
theorem lookV_none : ∀ {b : List VPair} {k : Str}, lookV b k = none → ∀ p ∈ b, p.1 ≠ k
  | [], _, _, p, hp => by simp at hp
  | q :: b, k, h, p, hp => by
    rw [lookV] at h
    split at h
    · cases h
    · rename_i e
      rcases List.mem_cons.1 hp with rfl | hp
      · exact e
      · exact lookV_none h p hp
structure Like (e m : List VPair) : Prop where
  asc : AscP e
  perm : (e.map (·.1)).Perm (m.map (·.1))
  val : ∀ p ∈ e, mget m p.1 = some p.2
theorem mget_key : ∀ {m : List VPair} {k v : Str}, mget m k = some v → k ∈ m.map (·.1)
  | [], _, _, h => by cases h
  | p :: m, k, v, h => by
    rw [mget] at h
    split at h
    · rename_i e; subst e; simp
    · exact List.mem_cons_of_mem _ (mget_key h)
theorem Like.len {e m : List VPair} (h : Like e m) : e.length = m.length := by simpa using h.perm.length_eq
theorem Like.look {e m : List VPair} (h : Like e m) (k : Str) : lookV e k = mget m k := by
  cases h1 : lookV e k with
  | some v => exact (h.val _ (lookV_mem h1)).symm
  | none =>
    cases h2 : mget m k with
    | none => rfl
    | some v =>
      obtain ⟨p, hp, hk⟩ := List.mem_map.1 (h.perm.symm.mem_iff.1 (mget_key h2))
      exact absurd hk (lookV_none h1 p hp)
theorem srt_fix {l : List Str} (h : l.Pairwise fun a b => a < b) : srt l = l := by
  refine List.mergeSort_of_pairwise (h.imp fun hab => ?_)
  simp only [decide_eq_true_eq]
  exact List.le_of_lt hab
theorem Like.eq {e m : List VPair} (h : Like e m) : e = pairsM m := by
  have h1 : srt (m.map (·.1)) = e.map (·.1) := by
    have h2 : srt (m.map (·.1)) = srt (e.map (·.1)) := (mergeSort_of_perm h.perm.symm : _)
    rw [h2, srt_fix (List.pairwise_map.2 h.asc)]
  rw [pairsM, h1, List.map_map]
  have h3 : ∀ p ∈ e, ((fun k => (k, (mget m k).getD [])) ∘ fun p : VPair => p.1) p = id p := fun p hp => by
    show (p.1, (mget m p.1).getD []) = p
    rw [h.val p hp]; rfl
  rw [List.map_congr_left h3, List.map_id]
theorem mem_setR {v x : Str} : ∀ {b : List VPair} {p : VPair}, p ∈ setR v x b ↔ p = (v, x) ∨ p ∈ b
  | [], p => by simp [setR]
  | q :: b, p => by
    rw [setR]
    split
    · simp
    · simp only [List.mem_cons, mem_setR (b := b)]
      constructor
      · rintro (h | h | h) <;> simp [h]
      · rintro (h | h | h) <;> simp [h]
theorem setR_perm {v x : Str} : ∀ b : List VPair, (setR v x b).Perm (b ++ [(v, x)])
  | [] => List.Perm.refl _
  | q :: b => by
    rw [setR]
    split
    · exact (List.perm_append_singleton (v, x) (q :: b)).symm
    · exact (setR_perm b).cons q
theorem setR_asc {v x : Str} : ∀ {b : List VPair}, AscP b → (∀ p ∈ b, p.1 ≠ v) → AscP (setR v x b)
  | [], _, _ => by simp [setR]
  | q :: b, h, hn => by
    obtain ⟨h1, h2⟩ := List.pairwise_cons.1 h
    rw [setR]
    split
    · rename_i hlt
      rw [blt_eq, decide_eq_true_eq] at hlt
      refine List.pairwise_cons.2 ⟨fun p hp => ?_, h⟩
      rcases List.mem_cons.1 hp with rfl | hp
      · exact hlt
      · exact List.lt_trans hlt (h1 p hp)
    · rename_i hlt
      have hlt : blt v q.1 = false := by simpa using hlt
      have h3 : q.1 < v := by
        cases h4 : blt q.1 v with
        | true => rwa [blt_eq, decide_eq_true_eq] at h4
        | false => exact absurd (blt_sto.tri _ _ h4 hlt) (hn q (by simp))
      refine List.pairwise_cons.2 ⟨fun p hp => ?_, setR_asc h2 (fun p hp => hn p (by simp [hp]))⟩
      rcases mem_setR.1 hp with rfl | hp
      · exact h3
      · exact h1 p hp
theorem mget_snoc {m : List VPair} {v x : Str} : ∀ {k : Str}, mget (m ++ [(v, x)]) k = (match mget m k with | some u => some u | none => if v = k then some x else none) := by
  induction m with
  | nil => intro k; rfl
  | cons p m ih =>
    intro k
    rw [List.cons_append, mget, mget]
    split
    · rfl
    · exact ih
theorem Like.set {e m : List VPair} (h : Like e m) {v x : Str} (hn : mget m v = none) : Like (setR v x e) (mput m v x) := by
  have hm : mput m v x = m ++ [(v, x)] := by
    refine (mget_no fun p hp he => ?_).2 x
    have hl : lookV e v = none := by rw [h.look]; exact hn
    obtain ⟨q, hq, hk⟩ := List.mem_map.1 (h.perm.symm.mem_iff.1 (List.mem_map.2 ⟨p, hp, rfl⟩))
    exact lookV_none hl q hq (hk.trans he)
  have hl : lookV e v = none := by rw [h.look]; exact hn
  rw [hm]
  refine ⟨setR_asc h.asc (lookV_none hl), ?_, fun p hp => ?_⟩
  · refine ((setR_perm e).map _).trans ?_
    rw [List.map_append, List.map_append]
    exact h.perm.append (List.Perm.refl _)
  · rw [mget_snoc]
    rcases mem_setR.1 hp with rfl | hp
    · rw [hn]; simp
    · rw [h.val p hp]
theorem turnS_len : ∀ {l : List (Str × Str)} {m m' : List VPair}, turnS m l = some m' → m.length ≤ m'.length
  | [], m, m', h => by cases h; exact Nat.le_refl _
  | q :: l, m, m', h => by
    rw [turnS] at h
    split at h
    · rename_i m1 h1
      refine Nat.le_trans ?_ (turnS_len h)
      unfold turnStep at h1
      split at h1
      · split at h1
        · split at h1
          · cases h1; exact Nat.le_refl _
          · cases h1
        · cases h1
          have : ∀ (m : List VPair) k v, m.length ≤ (mput m k v).length := fun m k v => by
            induction m with
            | nil => simp [mput]
            | cons p m ih => rw [mput]; split <;> simp; exact ih
          exact this _ _ _
      · split at h1
        · cases h1; exact Nat.le_refl _
        · cases h1
    · cases h
def fin6 (o : Option (List VPair)) : Option (List VPair) := match o with | some m => if m.length ≤ 6 then some (pairsM m) else none | none => none
theorem matS_eq : ∀ (l : List (Str × Str)) {e m : List VPair}, Like e m → bindF e = true → (∀ q ∈ l, termF q.1 = true ∧ atomF q.2 = true) → matS e l = fin6 (turnS m l)
  | [], e, m, h, hb, _ => by
    have := h.len
    have := bindF_len hb
    rw [matS, turnS, fin6, if_pos (by omega), ← h.eq]
  | q :: l, e, m, h, hb, hq => by
    obtain ⟨q1, q2⟩ := hq q (by simp)
    have hl := fun r hr => hq r (List.mem_cons_of_mem q hr)
    obtain ⟨t, x⟩ := q
    simp only at q1 q2
    rw [matS, turnS]
    simp only
    by_cases ha : atomF t = true
    · have hv : varF t = false := atom_novar ha
      rw [if_pos ha]
      by_cases htx : t = x
      · rw [if_pos htx, step_eq hv htx]; exact matS_eq l h hb hl
      · rw [if_neg htx, step_no hv htx]; rfl
    · have hv : varF t = true := by simpa [termF, ha] using q1
      have ha : atomF t = false := by simpa using ha
      rw [if_neg (by simp [ha])]
      have hval : valF e t = match mget m t with | some v => (v, true) | none => ([], false) := by
        unfold valF; rw [if_neg (by simp [ha]), if_pos hv, h.look] <;> (cases mget m t <;> rfl)
      unfold extF
      rw [hb, hv, q2, hval]
      cases hg : mget m t with
      | some v =>
        by_cases hvx : v = x
        · rw [step_old hv hg hvx]; simp [hvx]; exact matS_eq l h hb hl
        · rw [step_bad hv hg hvx]; simp [hvx, fin6]
      | none =>
        rw [step_new hv hg]
        by_cases h6 : e.length = 6
        · simp only [Bool.true_and, Bool.false_and, Bool.false_or, h6, decide_true, if_true]
          simp only [Bool.false_eq_true, if_false]
          cases ht : turnS (mput m t x) l with
          | none => rfl
          | some m' =>
            have h1 := turnS_len ht
            have h2 := h.len
            have h3 := (h.set (x := x) hg).len
            have h4 := (setR_perm (v := t) (x := x) e).length_eq
            rw [List.length_append, List.length_singleton] at h4
            rw [fin6, if_neg (by omega)]
        · simp only [Bool.true_and, Bool.false_and, Bool.false_or, h6, decide_false, Bool.false_eq_true, if_false, if_true]
          obtain ⟨b1, b2, b3⟩ := (bindF_iff e).1 hb
          have hn : lookV e t = none := by rw [h.look]; exact hg
          refine matS_eq l (h.set hg) ((bindF_iff _).2 ⟨?_, fun p hp => ?_, (h.set (x := x) hg).asc⟩) hl
          · have h4 := (setR_perm (v := t) (x := x) e).length_eq
            rw [List.length_append, List.length_singleton] at h4
            omega
          · rcases mem_setR.1 hp with rfl | hp
            · exact ⟨hv, q2⟩
            · exact b2 p hp
theorem like_self {b : List VPair} (h : bindF b = true) : Like b b := by
  obtain ⟨_, _, h3⟩ := (bindF_iff b).1 h
  refine ⟨h3, List.Perm.refl _, fun p hp => ?_⟩
  obtain ⟨j, hj⟩ := List.getElem?_of_mem hp
  refine (mget_at ?_ (show b[j]? = some (p.1, p.2) from hj)).1
  refine List.pairwise_map.2 (h3.imp fun hlt he => ?_)
  rw [he] at hlt
  exact List.lt_irrefl _ hlt
theorem var_len {x : Str} (h : varF x = true) : x.length ≤ 9 := by
  unfold varF at h
  simp only [Bool.and_eq_true] at h
  have h2 := h.2
  unfold atomF at h2
  simp only [Bool.and_eq_true, decide_eq_true_eq, List.length_drop] at h2
  have := h2.2.2
  omega
theorem mput_key {k v : Str} : ∀ {m : List VPair} {p : VPair}, p ∈ mput m k v → p.1 = k ∨ p ∈ m
  | [], p, h => by rw [mput] at h; left; rw [List.mem_singleton.1 h]
  | q :: m, p, h => by
    rw [mput] at h
    split at h
    · rcases List.mem_cons.1 h with rfl | h
      · exact .inl rfl
      · exact .inr (List.mem_cons_of_mem _ h)
    · rcases List.mem_cons.1 h with rfl | h
      · exact .inr (by simp)
      · rcases mput_key h with h | h
        · exact .inl h
        · exact .inr (List.mem_cons_of_mem _ h)
theorem turnS_var : ∀ {l : List (Str × Str)} {m m' : List VPair}, turnS m l = some m' → (∀ p ∈ m, varF p.1 = true) → ∀ p ∈ m', varF p.1 = true
  | [], m, m', h, hm => by cases h; exact hm
  | q :: l, m, m', h, hm => by
    rw [turnS] at h
    split at h
    · rename_i m1 h1
      refine turnS_var h ?_
      unfold turnStep at h1
      split at h1
      · rename_i hv
        split at h1
        · split at h1
          · cases h1; exact hm
          · cases h1
        · cases h1
          intro p hp
          rcases mput_key hp with he | hp
          · rw [he]; exact hv
          · exact hm p hp
      · split at h1
        · cases h1; exact hm
        · cases h1
    · cases h
theorem turnF_var {m m' : List VPair} {a x : List Str} (h : turnF m a x = some m') (hm : bindF m = true) : ∀ p ∈ m', p.1.length ≤ 1048576 := fun p hp => by
  unfold turnF at h
  split at h
  · have := var_len (turnS_var h (fun p hp => (((bindF_iff m).1 hm).2.1 p hp).1) p hp)
    omega
  · cases h
theorem extF_bind {b e : List VPair} {v x : Str} (h : extF b v x = some e) : bindF e = true := by
  unfold extF at h
  split at h
  · rename_i hc
    simp only [Bool.and_eq_true] at hc
    obtain ⟨⟨hb, hv⟩, hx⟩ := hc
    split at h
    · cases h; exact hb
    · rename_i h1
      split at h
      · cases h
      · rename_i h2
        cases h
        simp only [Bool.or_eq_true, decide_eq_true_eq, not_or] at h2
        obtain ⟨b1, b2, b3⟩ := (bindF_iff b).1 hb
        have ha : atomF v = false := by
          cases ha : atomF v with
          | false => rfl
          | true => rw [atom_novar ha] at hv; cases hv
        have hn : lookV b v = none := by
          have h3 := h2.1
          unfold valF at h3
          rw [if_neg (by simp [ha]), if_pos hv] at h3
          cases hl : lookV b v with
          | none => rfl
          | some u => rw [hl] at h3; simp at h3
        refine (bindF_iff _).2 ⟨?_, fun p hp => ?_, setR_asc b3 (lookV_none hn)⟩
        · have h4 := (setR_perm (v := v) (x := x) b).length_eq
          rw [List.length_append, List.length_singleton] at h4
          omega
        · rcases mem_setR.1 hp with rfl | hp
          · exact ⟨hv, hx⟩
          · exact b2 p hp
  · cases h
theorem pairs_size : ∀ {b : List VPair}, (∀ p ∈ b, varF p.1 = true ∧ atomF p.2 = true) → listSize tPair b ≤ 17 * b.length
  | [], _ => Nat.zero_le _
  | p :: b, h => by
    have h1 := pairs_size (b := b) (fun q hq => h q (by simp [hq]))
    obtain ⟨hv, ha⟩ := h p (by simp)
    have h2 := var_len hv
    unfold atomF at ha
    simp only [Bool.and_eq_true, decide_eq_true_eq] at ha
    have h3 := ha.2.2
    show (p.1.length + p.2.length) + listSize tPair b ≤ 17 * (b.length + 1)
    omega
theorem bind_size {b : List VPair} (h : bindF b = true) : tPairs.size b ≤ 1048576 := by
  obtain ⟨h1, h2, _⟩ := (bindF_iff b).1 h
  have := pairs_size h2
  rw [tPairs_sz]; omega
end Go.Proofs.YtoindmahilbalaaGreat
namespace Go.Proofs.YtoindmahilbalaaGreat
open Abs
def matF (p : VPattern) (f : Fct) (b : List VPair) : Option (List VPair) :=
  if decide (p.1 = f.1) && isPatF p && isFactF f && bindF b then fin6 (turnF b p.2 f.2) else none
theorem own_tup {α : Type} (T : Ty α) (hf : ∀ a, T.fr a = []) (e : ∀ a, T.tk a 0 = oldL (T.q a)) {F : Fr} {t k : Nat} {l : List α} (v : Value) (hv : plainV v = true) (hk : F[k]? = some (t, T.sz, l.length)) :
    ∃ ts, OwnA F [.p [.l t T.sz (l.map T.q), .v v]] [.tup [.list (some k) (rows T l), .val v]] ts ∧ ts.Nodup := by
  have := OwnA.p _ _ (plain_ownA T hf e F t k l hk (.v v hv .nil)) .nil
  rw [List.append_nil] at this
  exact ⟨[k], this, by simp⟩
theorem pMatchFact.own (p : VPattern) (f : Fct) (b : List VPair) (h1 : tPattern.size p ≤ 1048576) (h2 : tFct.size f ≤ 1048576) (h3 : tPairs.size b ≤ 1048576) :
    Abs.Own false Tryz.prog 151 [.agg (oldL (tPattern.q p)), .agg (oldL (tFct.q f)), .list none (pairs b)] (.p [.l 141 2 (((matF p f b).getD []).map tPair.q), .v (.bool (matF p f b).isSome)]) := by
  refine Abs.IrAt.ownP pMatchFact.ir rfl ?_
  have hx := plainC_old (tPattern.q p)
  have hy := plainC_old (tFct.q f)
  have s1 : tFct.size p ≤ 1048576 := h1
  have s2 := h2
  have s3 := h3
  rw [tFct_size, tStrs_size] at s1 s2
  rw [tPairs_sz] at s3
  generalize ho : matF p f b = o
  repeat' first
    | (conv => whnf
       first | refine Need.mk (fun h => h) ?_ | refine Need.mk rfl ?_ | refine nb_ ?_ | refine Fork.mk (fun _ => ?_) (fun _ => ?_) | refine FinVal.keep ?_ | refine AGCall.mkA _ _ (fun hg => Ret.weak (pIsPattern.ret _ ?_)) rfl ?_ | refine AGCall.mkA _ _ (fun hg => Ret.weak (pIsFact.ret _ ?_)) rfl ?_ | refine AGCall.mkA _ _ (fun hg => Ret.weak (pIsBinding.ret _ ?_)) rfl ?_)
  · exact h1
  · exact h2
  · exact h3
  · rename_i hc
    have : o = none := by
      rw [← ho, matF, if_neg (fun hn => ?_)]
      revert hc hn
      cases hp : decide (p.1 = f.1) <;> cases isPatF p <;> cases isFactF f <;> cases bindF b <;> simp_all
    subst this
    exact own_tup tPair (fun _ => rfl) (fun _ => rfl) (.bool false) rfl rfl
  rename_i hc
  have hc : (decide (p.1 = f.1) && isPatF p && isFactF f && bindF b) = true := by
    revert hc
    cases isPatF p <;> cases isFactF f <;> cases bindF b <;> simp_all
  rw [matF, if_pos hc] at ho
  have hb : bindF b = true := by simp only [Bool.and_eq_true] at hc; exact hc.2
  have hbl := bindF_len hb
  have hmo := pmapOfPairs.lent _ _ hx hy b h3 hb
  have htu := pturnInto.lent _ _ hx hy b p.2 f.2 (by omega) (by omega) (by omega)
  repeat' first
    | (conv => whnf
       first | refine ACall.lentE _ _ _ _ _ (Lent.weak (hmo)) (by repeat' first | exact Lends.nil | refine Lends.map _ ?_ | refine Lends.lend _ _ (by first | exact hx.1 | exact hy.1 | exact noTk_old _ | (intro c hc; rw [List.mem_singleton.1 hc]; rfl) | (intro c hc; cases hc; done)) ?_) (by repeat' first | exact SeesL.nil | refine SeesL.cons ?_ ?_ | exact Or.inl ⟨rfl, rfl⟩ | exact Or.inr (Sees0.str _) | exact Or.inr (Sees0.val _) | exact Or.inr (Sees0.olds _ _) | exact Or.inr (Sees0.old _) | exact Or.inr (Sees0.oldagg _)) ?_ | refine ACall.lent rfl _ _ _ (Lent.weak (htu)) (by repeat' first | exact Lends.nil | refine Lends.map _ ?_ | refine Lends.lend _ _ (by first | exact hx.1 | exact hy.1 | exact noTk_old _ | (intro c hc; rw [List.mem_singleton.1 hc]; rfl) | (intro c hc; cases hc; done)) ?_) (by repeat' first | exact SeesL.nil | refine SeesL.cons ?_ ?_ | exact Or.inl ⟨rfl, rfl⟩ | exact Or.inr (Sees0.str _) | exact Or.inr (Sees0.val _) | exact Or.inr (Sees0.olds _ _) | exact Or.inr (Sees0.old _) | exact Or.inr (Sees0.oldagg _)) ?_)
  rintro _ _ _ ⟨m', rfl, rfl, rfl, hm'⟩
  cases ht : turnF b p.2 f.2 with
  | none =>
    rw [ht] at ho
    have ho : none = o := ho
    subst ho
    repeat' first
      | (conv => whnf
         first | refine Need.mk (fun h => h) ?_ | refine Need.mk rfl ?_ | refine Fork.decYes (by omega) ?_ | refine FinVal.keep ?_)
    all_goals exact own_tup tPair (fun _ => rfl) (fun _ => rfl) (.bool false) rfl rfl
  | some m0 =>
    have e := hm' m0 ht
    subst e
    rw [ht] at ho
    have hkl := turnF_var ht hb
    repeat' first
      | (conv => whnf
         first | refine Need.mk (fun h => h) ?_ | refine Need.mk rfl ?_ | refine Fork.dec (fun _ => ?_) (fun _ => ?_) | refine FinVal.keep ?_)
    · rename_i hc2
      have : o = none := by
        rw [← ho, fin6, if_neg (fun hl => ?_)]
        revert hc2; simp; omega
      subst this
      exact own_tup tPair (fun _ => rfl) (fun _ => rfl) (.bool false) rfl rfl
    rename_i hc2
    have hl6 : m'.length ≤ 6 := by revert hc2; simp; omega
    rw [fin6, if_pos hl6] at ho
    subst ho
    have hpp := ppairsOfMap.lent _ _ hx hy m' (by omega) hkl
    have hpl : (pairsM m').length = m'.length := by rw [pairsM, List.length_map, srt_len, List.length_map]
    repeat' first
      | (conv => whnf
         first | refine FinVal.keep ?_ | refine ACall.lentE _ _ _ _ _ (hpp) (by repeat' first | exact Lends.nil | refine Lends.map _ ?_ | refine Lends.lend _ _ (by first | exact hx.1 | exact hy.1 | exact noTk_old _ | (intro c hc; rw [List.mem_singleton.1 hc]; rfl) | (intro c hc; cases hc; done)) ?_) (by repeat' first | exact SeesL.nil | refine SeesL.cons ?_ ?_ | exact Or.inl ⟨rfl, rfl⟩ | exact Or.inr (Sees0.str _) | exact Or.inr (Sees0.val _) | exact Or.inr (Sees0.olds _ _) | exact Or.inr (Sees0.old _) | exact Or.inr (Sees0.oldagg _)) ?_)
    exact own_tup tPair (fun _ => rfl) (fun _ => rfl) (l := pairsM m') (k := 0) (.bool true) rfl (by rw [hpl]; rfl)
end Go.Proofs.YtoindmahilbalaaGreat
namespace Go.Proofs.YtoindmahilbalaaGreat
namespace Abs
theorem ACall.mkTB {α : Type} (T : Ty α) {C : Con} {lend : Bool} {f : Nat} {vs : List AV} {b : List ABox} {fr : Fr} {k : AV → List ABox → Fr → Prop} (ys : List AV) (l : List α) (v : Value) (F : Fr) (h : C.ret f ys (.tup [.list (some 0) (rows T l), .val v]) F) (hv : SeesL Sees0 vs ys)
    (hk : k (.tup [.list (some fr.length) (rows T l), .val v]) b (fr ++ F)) : ACall C lend f vs b fr k :=
  .mk ys _ _ h hv (by
    show k (.tup [.list (some (0 + fr.length)) (mapTLL _ (rows T l)), .val v]) _ _
    rw [rows, mapTLL_old, Nat.zero_add]; exact hk)
end Abs
open Abs
theorem sCopyB.ret (b : List VPair) (h : tPairs.size b ≤ 1048576) : sCopyB.Ret [.list none (pairs b)] (.list (some 0) (pairs b)) [(141, 2, b.length)] := by
  refine sCopyB.ir.of rfl ?_
  rw [tPairs_sz] at h
  repeat' first
    | (conv => whnf
       first | refine Need.mk rfl ?_ | refine Need.mk ?_ ?_ | refine Final.mk ?_ ?_)
    | refine AV.list_congr ?_ | refine fr1 ?_
  all_goals try simp only [length_rows, length_strs, length_oldLL, List.length_map, Int.toNat_natCast] at *
  · exact rows_cut tPair b
  · simp only [List.length_nil]; omega
  · rfl
  · simp
theorem gtr_blt (a v : Str) : (!(Op.bytesLess a v || a == v)) = blt v a := by
  show (!(blt a v || a == v)) = blt v a
  cases h : blt v a with
  | true =>
    have h1 := STO.asymm blt_sto h
    have h2 : (a == v) = false := by
      rw [beq_eq_false_iff_ne]; rintro rfl; rw [blt_sto.irrefl] at h; cases h
    rw [h1, h2]; rfl
  | false =>
    cases h1 : blt a v with
    | true => rfl
    | false =>
      have := blt_sto.tri a v h1 h
      subst this; simp
theorem sSet.ret (b : List VPair) (v x : Str) (h : tPairs.size b ≤ 1048576) : sSet.Ret [.list none (pairs b), .str v, .str x] (.list (some 0) (pairs (setR v x b))) [(141, 2, (setR v x b).length)] := by
  refine sSet.ir.of rfl ?_
  rw [tPairs_sz] at h
  have hsl := (setR_perm (v := v) (x := x) b).length_eq
  rw [List.length_append, List.length_singleton] at hsl
  repeat' first
    | (conv => whnf
       first | refine Need.mk rfl ?_)
  refine ALoop.mk (Nat × List VPair × Bool) (fun i => ⟨[(0, .list none (pairs b)), (1, .str v), (2, .str x), (7, .list (some 0) (pairs i.2.1)), (8, .val (.bool i.2.2)), (9, .val (.int .i64 i.1))], [], [(141, 2, i.2.1.length)]⟩)
    (fun i => i.1 ≤ b.length ∧ i.2.1 ++ (if i.2.2 then b.drop i.1 else setR v x (b.drop i.1)) = setR v x b) (fun i => b.length - i.1) ⟨(0, [], false), ⟨Nat.zero_le _, rfl⟩, ?_⟩ (fun i hi => ?_)
  · repeat' first
      | exact trivial | refine wl_ ?_ ?_ ?_ ?_ | refine And.intro ?_ ?_ | with_reducible rfl | exact ble_ | refine fr1 ?_ | refine AV.int_congr ?_ | refine AV.bool_congr ?_ | refine AV.str_congr ?_ | refine AV.list_congr ?_ | (apply rfl)
  obtain ⟨i, o, d⟩ := i
  obtain ⟨hi, ho⟩ := hi
  simp only at hi ho
  have hol : o.length ≤ b.length + 1 := by
    have := congrArg List.length ho
    rw [List.length_append, hsl] at this; omega
  have hdr : i < b.length → b.drop i = b.getD i default :: b.drop (i + 1) := fun hlt => by
    rw [List.drop_eq_getElem_cons hlt]; simp [List.getD, hlt]
  repeat' first
    | (conv => whnf
       first | refine Need.mk (fun h => h) ?_ | refine Need.mk rfl ?_ | refine nb_ ?_ | refine Need.mk ?_ ?_ | refine Ix.mapF (fun _ => rfl) ?_ | refine Fork.dec (fun _ => ?_) (fun _ => ?_) | refine Fork.neg (fun _ => ?_) (fun _ => ?_) | refine Fork.mk (fun _ => ?_) (fun _ => ?_) | refine Round.mk ?_ | refine Lit.read rfl ?_ | refine Final.mk ?_ ?_)
    | refine AV.list_congr ?_ | refine fr1 ?_
  all_goals try simp only [length_rows, length_strs, length_oldLL, List.length_map, Int.toNat_natCast] at *
  · intro c hc; rw [List.mem_singleton.1 hc]; rfl
  · simp only [List.length_singleton]; omega
  · simp
  · intro c hc; rw [List.mem_singleton.1 hc]; rfl
  · simp only [List.length_append, List.length_singleton, length_rows]; omega
  · rename_i hc h1
    rw [gtr_blt, Bool.and_eq_true, Bool.not_eq_true'] at hc
    obtain ⟨hd, hb⟩ := hc
    subst hd
    refine ⟨(i + 1, (o ++ [(v, x)]) ++ [b.getD i default], true), ⟨by simp only; omega, ?_⟩, ?_, by simp only; omega⟩
    · rw [hdr (by omega)] at ho
      simp only [Bool.false_eq_true, if_false, setR, hb, if_true] at ho
      simp only [if_true, List.append_assoc, List.singleton_append]
      exact ho
    · repeat' first
        | exact trivial | refine wl_ ?_ ?_ ?_ ?_ | refine And.intro ?_ ?_ | with_reducible rfl | exact ble_ | refine fr1 ?_ | refine AV.int_congr ?_ | refine AV.bool_congr ?_ | refine AV.str_congr ?_ | refine AV.list_congr ?_ | (apply rfl)
      · exact (congrArg (· ++ _) (rows_snoc tPair o (v, x))).trans (rows_snoc tPair (o ++ [(v, x)]) _)
      · rw [wrap64 (by omega) (by omega)]; rfl
      · simp [length_rows]
  · intro c hc; rw [List.mem_singleton.1 hc]; rfl
  · simp only [List.length_singleton]; omega
  · rename_i hc h1
    refine ⟨(i + 1, o ++ [b.getD i default], d), ⟨by simp only; omega, ?_⟩, ?_, by simp only; omega⟩
    · rw [hdr (by omega)] at ho
      cases d with
      | true => simpa using ho
      | false =>
        rw [gtr_blt] at hc
        have hb : blt v (b.getD i default).1 = false := by simpa using hc
        simp only [Bool.false_eq_true, if_false, setR, hb] at ho
        simp only [Bool.false_eq_true, if_false, List.append_assoc, List.singleton_append]
        exact ho
    · repeat' first
        | exact trivial | refine wl_ ?_ ?_ ?_ ?_ | refine And.intro ?_ ?_ | with_reducible rfl | exact ble_ | refine fr1 ?_ | refine AV.int_congr ?_ | refine AV.bool_congr ?_ | refine AV.str_congr ?_ | refine AV.list_congr ?_ | (apply rfl)
      · exact rows_snoc tPair o _
      · rw [wrap64 (by omega) (by omega)]; rfl
      · simp
  · intro c hc; rw [List.mem_singleton.1 hc]; rfl
  · simp only [List.length_singleton]; omega
  · rename_i hd h1
    subst hd
    have e : b.drop i = [] := List.drop_eq_nil_of_le (by omega)
    rw [e] at ho
    have ho : o ++ [(v, x)] = setR v x b := ho
    rw [← ho]; exact rows_snoc tPair o (v, x)
  · rename_i hd h1
    subst hd
    have e : b.drop i = [] := List.drop_eq_nil_of_le (by omega)
    rw [e] at ho
    have ho : o ++ [(v, x)] = setR v x b := ho
    rw [← ho, List.length_append]; rfl
  · rename_i hd h1
    subst hd
    have e : b.drop i = [] := List.drop_eq_nil_of_le (by omega)
    rw [e] at ho
    have ho : o ++ [] = setR v x b := ho
    rw [← ho, List.append_nil]
  · rename_i hd h1
    subst hd
    have e : b.drop i = [] := List.drop_eq_nil_of_le (by omega)
    rw [e] at ho
    have ho : o ++ [] = setR v x b := ho
    rw [← ho, List.append_nil]
theorem ext_none {b : List VPair} {v x : Str} (h : (!bindF b || !varF v || !atomF x) = true) : extF b v x = none := by
  unfold extF
  rw [if_neg]
  intro hc
  simp only [Bool.and_eq_true] at hc
  simp [hc.1.1, hc.1.2, hc.2] at h
theorem ext_ok {b : List VPair} {v x : Str} (h : (!bindF b || !varF v || !atomF x) = false) : extF b v x = if (valF b v).2 && decide ((valF b v).1 = x) then some b else if (valF b v).2 || decide (b.length = 6) then none else some (setR v x b) := by
  unfold extF
  rw [if_pos]
  simpa using h
theorem ext_same {b : List VPair} {v x : Str} (h : (!bindF b || !varF v || !atomF x) = false) (hs : ((valF b v).2 && (valF b v).1 == x) = true) : extF b v x = some b := by
  rw [ext_ok h, if_pos (by simpa using hs)]
theorem ext_full {b : List VPair} {v x : Str} (h : (!bindF b || !varF v || !atomF x) = false) (hs : ((valF b v).2 && (valF b v).1 == x) = false) (h6 : ((valF b v).2 || (b.length : Int) == 6) = true) : extF b v x = none := by
  rw [ext_ok h, if_neg (by simpa using hs), if_pos]
  simp only [Bool.or_eq_true, decide_eq_true_eq, beq_iff_eq] at h6 ⊢
  exact h6.imp id (by omega)
theorem ext_new {b : List VPair} {v x : Str} (h : (!bindF b || !varF v || !atomF x) = false) (hs : ((valF b v).2 && (valF b v).1 == x) = false) (h6 : ((valF b v).2 || (b.length : Int) == 6) = false) : extF b v x = some (setR v x b) := by
  rw [ext_ok h, if_neg (by simpa using hs), if_neg]
  simp only [Bool.or_eq_true, decide_eq_true_eq, Bool.or_eq_false_iff, beq_eq_false_iff_ne] at h6 ⊢
  rintro (h7 | h7)
  · rw [h6.1] at h7; cases h7
  · exact h6.2 (by omega)
theorem sExtend.ret (b : List VPair) (v x : Str) (h : tPairs.size b ≤ 1048576) (hv : v.length ≤ 1048576) (hx : x.length ≤ 1048576) :
    sExtend.Ret [.list none (pairs b), .str v, .str x] (.tup [.list (some 0) (pairs ((extF b v x).getD [])), .val (.bool (extF b v x).isSome)]) [(141, 2, ((extF b v x).getD []).length)] := by
  refine sExtend.ir.of rfl ?_
  generalize ho : extF b v x = o
  repeat' first
    | (conv => whnf
       first | refine Need.mk (fun h => h) ?_ | refine Need.mk rfl ?_ | refine Fork.mk (fun _ => ?_) (fun _ => ?_) | refine FinVal.keep ?_ | refine Final.mk ?_ ?_ | refine ACall.scalA _ _ (sIsBinding.ret _ ?_) rfl ?_ | refine AGCall.mkA _ _ (fun hg => sIsVar.ret _ ?_) rfl ?_ | refine AGCall.mkA _ _ (fun hg => sIsAtom.ret _ ?_) rfl ?_ | refine ACall.scalA _ _ (sValueOf.ret _ _ ?_ ?_) rfl ?_ | refine ACall.mkLA _ _ _ _ (sCopyB.ret _ ?_) ?_ | refine ACall.mkLA _ _ _ _ (sSet.ret _ _ _ ?_) ?_)
    | refine fr1 ?_
  · exact h
  · exact hv
  · exact hx
  · rename_i hc; rw [ext_none hc] at ho; subst ho; rfl
  · rename_i hc; rw [ext_none hc] at ho; subst ho; rfl
  · exact h
  · exact hv
  · exact h
  · rename_i hc hs; rw [ext_same hc hs] at ho; subst ho; rfl
  · rename_i hc hs; rw [ext_same hc hs] at ho; subst ho; rfl
  all_goals (try simp only [length_rows] at *)
  · rename_i hc hs h6; rw [ext_full hc hs h6] at ho; subst ho; rfl
  · rename_i hc hs h6; rw [ext_full hc hs h6] at ho; subst ho; rfl
  · exact h
  · rename_i hc hs h6; rw [ext_new hc hs h6] at ho; subst ho; rfl
  · rename_i hc hs h6; rw [ext_new hc hs h6] at ho; subst ho; rfl
theorem matS_no {e : List VPair} {t x : Str} {l : List (Str × Str)} (ha : atomF t = true) (h : t ≠ x) : matS e ((t, x) :: l) = none := by simp [matS, ha, h]
theorem matS_at {e : List VPair} {t x : Str} {l : List (Str × Str)} (ha : atomF t = true) (h : t = x) : matS e ((t, x) :: l) = matS e l := by subst h; simp [matS, ha]
theorem matS_var {e : List VPair} {t x : Str} {l : List (Str × Str)} (ha : atomF t = false) : matS e ((t, x) :: l) = match extF e t x with | some e' => matS e' l | none => none := by simp only [matS, ha, Bool.false_eq_true, if_false] <;> (cases extF e t x <;> rfl)
def matM (p : VPattern) (f : Fct) (b : List VPair) : Option (List VPair) :=
  if isPatF p && isFactF f && bindF b && decide (p.1 = f.1) && decide (p.2.length = f.2.length) then matS b (p.2.zip f.2) else none
theorem own_tup' {α : Type} (T : Ty α) (hf : ∀ a, T.fr a = []) (e : ∀ a, T.tk a 0 = oldL (T.q a)) {F : Fr} {t k : Nat} {l : List α} (v : Value) (hv : plainV v = true) (hk : F[k]? = some (t, T.sz, l.length)) :
    ∃ ts, OwnA F [.p [.l t T.sz (l.map T.q), .v v]] [.tup [.list (some k) (rows T l), .val v]] ts ∧ ts.Nodup := by
  have := OwnA.p _ _ (plain_ownA T hf e F t k l hk (.v v hv .nil)) .nil
  rw [List.append_nil] at this
  exact ⟨[k], this, by simp⟩
theorem sMatchFact.own (p : VPattern) (f : Fct) (b : List VPair) (h1 : tPattern.size p ≤ 1048576) (h2 : tFct.size f ≤ 1048576) (h3 : tPairs.size b ≤ 1048576) :
    sMatchFact.Own [.agg (oldL (tPattern.q p)), .agg (oldL (tFct.q f)), .list none (pairs b)] (.p [.l 141 2 (((matM p f b).getD []).map tPair.q), .v (.bool (matM p f b).isSome)]) := by
  refine Abs.IrAt.ownP sMatchFact.ir rfl ?_
  have s1 : tFct.size p ≤ 1048576 := h1
  have s2 := h2
  have s3 := h3
  rw [tFct_size, tStrs_size] at s1 s2
  rw [tPairs_sz] at s3
  generalize ho : matM p f b = o
  have ecast : ((p.2.length : Int) != (f.2.length : Int)) = (p.2.length != f.2.length) := by rw [Bool.eq_iff_iff]; simp; omega
  repeat' first
    | (conv => whnf
       first | refine Need.mk (fun h => h) ?_ | refine Need.mk rfl ?_ | refine nb_ ?_ | refine Fork.mk (fun _ => ?_) (fun _ => ?_) | refine FinVal.keep ?_ | refine ACall.scalA _ _ (sIsPattern.ret _ ?_) rfl ?_ | refine AGCall.mkA _ _ (fun hg => sIsFact.ret _ ?_) rfl ?_ | refine AGCall.mkA _ _ (fun hg => sIsBinding.ret _ ?_) rfl ?_ | refine ACall.mkLA _ _ _ _ (sCopyB.ret _ ?_) ?_)
  · exact h1
  · exact h2
  · exact h3
  · rename_i hc
    simp only [length_oldLL, List.length_map, ecast] at hc
    have : o = none := by
      rw [← ho, matM, if_neg (fun hn => ?_)]
      revert hc hn
      cases isPatF p <;> cases isFactF f <;> cases bindF b <;> simp_all
      rintro (h | h) h'
      · exact absurd h' h
      · exact h
    subst this
    exact own_tup' tPair (fun _ => rfl) (fun _ => rfl) (.bool false) rfl rfl
  · exact h3
  rename_i hc
  simp only [length_oldLL, List.length_map, ecast] at hc
  have hc : (isPatF p && isFactF f && bindF b && decide (p.1 = f.1) && decide (p.2.length = f.2.length)) = true := by
    revert hc
    cases isPatF p <;> cases isFactF f <;> cases bindF b <;> simp_all
  rw [matM, if_pos hc] at ho
  simp only [Bool.and_eq_true, decide_eq_true_eq] at hc
  obtain ⟨⟨⟨⟨hpat, hfct⟩, hb⟩, _⟩, hlen⟩ := hc
  refine ALoop.mk (Nat × Fr × Nat × List VPair) (fun i => ⟨[(0, .agg (oldL (tPattern.q p))), (1, .agg (oldL (tFct.q f))), (2, .list none (pairs b)), (3, .bptr 0 0), (4, .bptr 1 0), (8, .list (some i.2.2.1) (pairs i.2.2.2)), (9, .val (.int .i64 i.1))], [.cells .var (oldL (tPattern.q p)), .cells .var (oldL (tFct.q f))], i.2.1⟩)
    (fun i => i.1 ≤ p.2.length ∧ i.2.1[i.2.2.1]? = some (141, 2, i.2.2.2.length) ∧ bindF i.2.2.2 = true ∧ matS i.2.2.2 ((p.2.zip f.2).drop i.1) = o) (fun i => p.2.length - i.1) ⟨(0, [(141, 2, b.length)], 0, b), ⟨Nat.zero_le _, rfl, hb, ho⟩, ?_⟩ (fun i hi => ?_)
  · repeat' first
      | exact trivial | refine wl_ ?_ ?_ ?_ ?_ | refine And.intro ?_ ?_ | with_reducible rfl | exact ble_ | refine fr1 ?_ | refine AV.int_congr ?_ | refine AV.list_congr ?_ | (apply rfl)
  obtain ⟨i, F, k, e⟩ := i
  obtain ⟨hi, hF, hbe, hm⟩ := hi
  simp only at hi hF hbe hm
  have hal := str_le' p.2 i
  have hzl := str_le' f.2 i
  repeat' first
    | (conv => whnf
       first | refine Need.mk rfl ?_ | refine Ix.strsF rfl ?_ | refine Fork.dec (fun _ => ?_) (fun _ => ?_) | refine Fork.sne (fun _ => ?_) (fun _ => ?_) | refine Fork.neg (fun _ => ?_) (fun _ => ?_) | refine Fork.mk (fun _ => ?_) (fun _ => ?_) | refine Round.mk ?_ | refine FinVal.keep ?_ | refine ACall.scalA _ _ (sIsAtom.ret _ ?_) rfl ?_ | refine ACall.mkTB tPair _ _ _ _ (sExtend.ret _ _ _ ?_ ?_ ?_) (by repeat' first | exact SeesL.nil | refine SeesL.cons ?_ ?_ | exact SeesB.of0 (Sees0.val _) | exact SeesB.of0 (Sees0.str _) | exact SeesB.of0 (Sees0.olds _ _) | exact SeesB.of0 (Sees0.old _) | exact SeesB.of0 (Sees0.oldagg _) | exact SeesB.of0 Sees0.nil | exact Sees0.val _ | exact Sees0.str _ | exact Sees0.olds _ _ | exact Sees0.old _ | exact Sees0.oldagg _ | exact Sees0.nil | exact SeesB.of0 (Sees0.any _) | assumption | exact sees_gv _ _ _ (by assumption) (by first | assumption | exact BoxIn.last _ _ | exact BoxIn.more (BoxIn.last _ _) _) | refine SeesB.agg ?_ | refine Sees0.agg ?_ | exact SeesB.of0 (Sees0.clo SeesL.nil SeesL.nil) | exact Sees0.clo SeesL.nil SeesL.nil | exact SeesB.of0 (Sees0.list rfl) | exact Sees0.list rfl) ?_)
  all_goals (try simp only [length_oldLL, List.length_map, Int.toNat_natCast] at *)
  · omega
  · rename_i ha hne hlt
    rw [zip_drop (by omega) (by omega), matS_no ha hne] at hm
    subst hm
    exact own_tup' tPair (fun _ => rfl) (fun _ => rfl) (.bool false) rfl (by simp; rfl)
  · rename_i ha heq hlt
    rw [zip_drop (by omega) (by omega), matS_at ha heq] at hm
    refine ⟨(i + 1, F, k, e), ⟨by simp only; omega, hF, hbe, hm⟩, ?_, by simp only; omega⟩
    repeat' first
      | exact trivial | refine wl_ ?_ ?_ ?_ ?_ | refine And.intro ?_ ?_ | with_reducible rfl | exact ble_ | refine AV.int_congr ?_ | refine AV.list_congr ?_ | (apply rfl)
    rw [wrap64 (by omega) (by omega)]; rfl
  · exact bind_size hbe
  · omega
  · omega
  · rename_i ha hno hlt
    have hx := Option.isSome_eq_false_iff.1 hno
    rw [zip_drop (by omega) (by omega), matS_var ha, Option.isNone_iff_eq_none.1 hx] at hm
    have hm : none = o := hm
    subst hm
    exact own_tup' tPair (fun _ => rfl) (fun _ => rfl) (.bool false) rfl (by simp; rfl)
  · rename_i ha hso hlt
    obtain ⟨e', he⟩ := Option.isSome_iff_exists.1 hso
    rw [zip_drop (by omega) (by omega), matS_var ha, he] at hm
    have hm : matS e' ((p.2.zip f.2).drop (i + 1)) = o := hm
    refine ⟨(i + 1, F ++ [(141, 2, e'.length)], F.length, e'), ⟨by simp only; omega, by simp, extF_bind he, hm⟩, ?_, by simp only; omega⟩
    rw [he]
    repeat' first
      | exact trivial | refine wl_ ?_ ?_ ?_ ?_ | refine And.intro ?_ ?_ | with_reducible rfl | exact ble_ | refine AV.int_congr ?_ | refine AV.list_congr ?_ | (apply rfl)
    rw [wrap64 (by omega) (by omega)]; rfl
  · have e0 : (p.2.zip f.2).drop i = [] := List.drop_eq_nil_of_le (by simp; omega)
    rw [e0, matS] at hm
    subst hm
    exact own_tup' tPair (fun _ => rfl) (fun _ => rfl) (l := e) (.bool true) rfl hF
end Go.Proofs.YtoindmahilbalaaGreat
namespace Go.Proofs.YtoindmahilbalaaGreat
open Abs
theorem matM_eq (p : VPattern) (f : Fct) (b : List VPair) : matM p f b = matF p f b := by
  unfold matM matF
  by_cases hc : (decide (p.1 = f.1) && isPatF p && isFactF f && bindF b) = true
  · rw [if_pos hc]
    have hc' := hc
    simp only [Bool.and_eq_true] at hc'
    obtain ⟨⟨⟨h1, h2⟩, h3⟩, h4⟩ := hc'
    rw [h1, h2, h3, h4]
    simp only [Bool.true_and, decide_eq_true_eq]
    unfold turnF
    by_cases hl : p.2.length = f.2.length
    · rw [if_pos hl, if_pos hl]
      refine matS_eq _ (like_self h4) h4 (fun q hq => ?_)
      have h5 : p.2.all termF = true := by
        unfold isPatF tupF at h2; simp only [Bool.and_eq_true] at h2; exact h2.2
      have h6 : f.2.all atomF = true := by
        unfold isFactF at h3; simp only [Bool.and_eq_true] at h3; exact h3.2
      obtain ⟨t, x⟩ := q
      have h7 := List.of_mem_zip hq
      exact ⟨List.all_eq_true.1 h5 t h7.1, List.all_eq_true.1 h6 x h7.2⟩
    · rw [if_neg hl, if_neg hl]; rfl
  · rw [if_neg hc, if_neg]
    intro hn
    apply hc
    simp only [Bool.and_eq_true] at hn ⊢
    obtain ⟨⟨⟨⟨a, b⟩, c⟩, d⟩, _⟩ := hn
    exact ⟨⟨⟨d, a⟩, b⟩, c⟩
end Go.Proofs.YtoindmahilbalaaGreat
namespace Go.Proofs.YtoindmahilbalaaGreat
open Abs
def mchF (p : VPattern) (b : List VPair) (l : List Fct) : List Fct := l.filter fun f => (matM p f b).isSome
theorem mch_yes {p : VPattern} {b : List VPair} {l : List Fct} {i : Nat} (hi : i < l.length) (h : (matM p (l.getD i default) b).isSome = true) : mchF p b (l.take (i + 1)) = mchF p b (l.take i) ++ [l.getD i default] := by
  rw [take_succ' default hi, mchF, List.filter_append]
  simp only [List.filter_cons, h]; simp [mchF]
theorem mch_no {p : VPattern} {b : List VPair} {l : List Fct} {i : Nat} (hi : i < l.length) (h : (matM p (l.getD i default) b).isSome = false) : mchF p b (l.take (i + 1)) = mchF p b (l.take i) := by
  rw [take_succ' default hi, mchF, List.filter_append]
  simp only [List.filter_cons, h]; simp [mchF]
theorem mch_len (p : VPattern) (b : List VPair) (l : List Fct) (i : Nat) : (mchF p b (l.take i)).length ≤ l.length := by
  refine Nat.le_trans (List.length_filter_le _ _) ?_
  rw [List.length_take]; omega
theorem ok_mat (l : List VPair) (v : Bool) : okT (.p [.l 141 2 (l.map tPair.q), .v (.bool v)]) = true := by
  have := ok_list tPair 141 l
  simp [okT, okTL] at this ⊢
  exact this
theorem sMatchingFacts.ret (p : VPattern) (b : List VPair) (l : List Fct) (h1 : tPattern.size p ≤ 1048576) (h2 : tPairs.size b ≤ 1048576) (h : tFcts.size l ≤ 1048576) :
    sMatchingFacts.Ret [.agg (oldL (tPattern.q p)), .list none (pairs b), .list none (facts l)] (.list (some 0) (tks tFct (mchF p b l) 1)) (accFr (mchF p b l)) := by
  refine sMatchingFacts.ir.of rfl ?_
  rw [tFcts_size] at h
  repeat' first
    | (conv => whnf
       first | refine Need.mk rfl ?_)
  refine ALoop.mk Nat (fun i => ⟨[(0, .agg (oldL (tPattern.q p))), (1, .list none (pairs b)), (2, .list none (facts l)), (3, .bptr 0 0), (7, .list (some 0) (tks tFct (mchF p b (l.take i)) 1)), (8, .val (.int .i64 i))], [.cells .var (oldL (tPattern.q p))], accFr (mchF p b (l.take i))⟩) (fun i => i ≤ l.length) (fun i => l.length - i) ⟨0, Nat.zero_le _, ?_⟩ (fun i hi => ?_)
  · repeat' first
      | exact trivial | refine wl_ ?_ ?_ ?_ ?_ | refine And.intro ?_ ?_ | with_reducible rfl | exact ble_ | refine fr1 ?_ | refine AV.int_congr ?_ | refine AV.list_congr ?_ | (apply rfl)
  have hlen := mch_len p b l i
  have hsz : i < l.length → tFct.size (l.getD i default) ≤ 1048576 := fun hi => by have := fct_le hi; omega
  by_cases hi' : i < l.length
  rotate_left
  · repeat' first
      | (conv => whnf
         first | refine Need.mk rfl ?_ | refine nb_ ?_ | refine Ix.mapF (fun _ => rfl) ?_ | refine Fork.dec (fun _ => ?_) (fun _ => ?_) | refine Final.mk ?_ ?_)
      | refine AV.list_congr ?_
    all_goals try simp only [length_rows, length_strs, length_oldLL, List.length_map, Int.toNat_natCast] at *
    all_goals first
      | omega
      | (rw [List.take_of_length_le (by omega)]; done)
      | (rename_i h9; omega)
  have hm := sMatchFact.own p (l.getD i default) b h1 (hsz hi') h2
  have hok := ok_mat ((matM p (l.getD i default) b).getD []) (matM p (l.getD i default) b).isSome
  repeat' first
    | (conv => whnf
       first | refine Need.mk rfl ?_ | refine nb_ ?_ | refine Need.mk ?_ ?_ | refine Ix.mapF (fun _ => rfl) ?_ | refine Fork.dec (fun _ => ?_) (fun _ => ?_) | refine Fork.mk (fun _ => ?_) (fun _ => ?_) | refine Round.mk ?_ | refine Lit.read rfl ?_ | refine Final.mk ?_ ?_ | refine ACall.oldA _ _ (hm) ?_ | refine ACall.mkFct _ _ (sCopy.ret _ ?_) (by repeat' first | exact SeesL.nil | refine SeesL.cons ?_ ?_ | exact SeesB.of0 (Sees0.val _) | exact SeesB.of0 (Sees0.str _) | exact SeesB.of0 (Sees0.olds _ _) | exact SeesB.of0 (Sees0.old _) | exact SeesB.of0 (Sees0.oldagg _) | exact SeesB.of0 Sees0.nil | exact Sees0.val _ | exact Sees0.str _ | exact Sees0.olds _ _ | exact Sees0.old _ | exact Sees0.oldagg _ | exact Sees0.nil | exact SeesB.of0 (Sees0.any _) | assumption | exact sees_gv _ _ _ (by assumption) (by first | assumption | exact BoxIn.last _ _ | exact BoxIn.more (BoxIn.last _ _) _) | refine SeesB.agg ?_ | refine Sees0.agg ?_ | exact SeesB.of0 (Sees0.clo SeesL.nil SeesL.nil) | exact Sees0.clo SeesL.nil SeesL.nil | exact SeesB.of0 (Sees0.list rfl) | exact Sees0.list rfl) ?_)
    | refine AV.list_congr ?_
  all_goals try simp only [length_rows, length_strs, length_oldLL, List.length_map, Int.toNat_natCast] at *
  · exact hsz hi'
  · rw [length_tks]
  · intro c hc; rw [List.mem_singleton.1 hc]; exact tFct.htk _ _
  · rw [length_tks]; simp only [List.length_singleton]; omega
  · have h1 : (matM p (l.getD i default) b).isSome = true := by assumption
    refine ⟨i + 1, by omega, ?_, by omega⟩
    repeat' first
      | exact trivial | refine wl_ ?_ ?_ ?_ ?_ | refine And.intro ?_ ?_ | with_reducible rfl | exact ble_ | refine AV.int_congr ?_ | refine AV.list_congr ?_ | (apply rfl)
    · rw [acc_snoc, mch_yes hi' h1]
    · rw [wrap64 (by omega) (by omega)]; rfl
    · rw [length_tks, mch_yes hi' h1]; exact accFr_snoc _ _
  · have h1 : (matM p (l.getD i default) b).isSome = false := by assumption
    refine ⟨i + 1, by omega, ?_, by omega⟩
    repeat' first
      | exact trivial | refine wl_ ?_ ?_ ?_ ?_ | refine And.intro ?_ ?_ | with_reducible rfl | exact ble_ | refine AV.int_congr ?_ | refine AV.list_congr ?_ | (apply rfl)
    · rw [mch_no hi' h1]
    · rw [wrap64 (by omega) (by omega)]; rfl
    · rw [mch_no hi' h1]
  all_goals (exfalso; omega)
theorem pMatchingFacts.ret (p : VPattern) (b : List VPair) (l : List Fct) (h1 : tPattern.size p ≤ 1048576) (h2 : tPairs.size b ≤ 1048576) (h : tFcts.size l ≤ 1048576) :
    pMatchingFacts.RetN [.agg (oldL (tPattern.q p)), .list none (pairs b), .list none (facts l)] (.list (some 0) (tks tFct (mchF p b l) 1)) (accFr (mchF p b l)) := by
  refine pMatchingFacts.ir.of rfl ?_
  rw [tFcts_size] at h
  repeat' first
    | (conv => whnf
       first | refine Need.mk rfl ?_)
  refine ALoop.mk Nat (fun i => ⟨[(0, .agg (oldL (tPattern.q p))), (1, .list none (pairs b)), (2, .list none (facts l)), (3, .bptr 0 0), (7, .list (some 0) (tks tFct (mchF p b (l.take i)) 1)), (13, .list none (facts l)), (14, .val (.int .i64 l.length)), (15, .val (.int .i64 i))], [.cells .var (oldL (tPattern.q p))], accFr (mchF p b (l.take i))⟩) (fun i => i ≤ l.length) (fun i => l.length - i) ⟨0, Nat.zero_le _, ?_⟩ (fun i hi => ?_)
  · repeat' first
      | exact trivial | refine wl_ ?_ ?_ ?_ ?_ | refine And.intro ?_ ?_ | with_reducible rfl | exact ble_ | refine fr1 ?_ | refine AV.int_congr ?_ | refine AV.list_congr ?_ | (apply rfl)
    simp
  have hlen := mch_len p b l i
  have hsz : i < l.length → tFct.size (l.getD i default) ≤ 1048576 := fun hi => by have := fct_le hi; omega
  by_cases hi' : i < l.length
  rotate_left
  · repeat' first
      | (conv => whnf
         first | refine Need.mk rfl ?_ | refine Fork.decNo (by omega) ?_ | refine Final.mk ?_ ?_)
      | refine AV.list_congr ?_
    all_goals try simp only [length_rows, length_strs, length_oldLL, List.length_map, Int.toNat_natCast] at *
    all_goals first
      | omega
      | (rw [List.take_of_length_le (by omega)]; done)
      | (rename_i h9; omega)
  have hm := (matM_eq p (l.getD i default) b).symm ▸ pMatchFact.own p (l.getD i default) b h1 (hsz hi') h2
  have hok := ok_mat ((matM p (l.getD i default) b).getD []) (matM p (l.getD i default) b).isSome
  repeat' first
    | (conv => whnf
       first | refine Need.mk rfl ?_ | refine Need.mk ⟨rfl, Nat.le_of_ble_eq_true rfl⟩ ?_ | refine nb_ ?_ | refine Need.mk ?_ ?_ | refine Ix.mapF (fun _ => rfl) ?_ | refine Fork.decYes (by omega) ?_ | refine Fork.mk (fun _ => ?_) (fun _ => ?_) | refine Round.mk ?_ | refine Lit.read rfl ?_ | refine ACall.oldA _ _ (hm) ?_ | refine ACall.mkFct _ _ (Ret.weak (pcopyFact.ret _ ?_)) (by repeat' first | exact SeesL.nil | refine SeesL.cons ?_ ?_ | exact SeesB.of0 (Sees0.val _) | exact SeesB.of0 (Sees0.str _) | exact SeesB.of0 (Sees0.olds _ _) | exact SeesB.of0 (Sees0.old _) | exact SeesB.of0 (Sees0.oldagg _) | exact SeesB.of0 Sees0.nil | exact Sees0.val _ | exact Sees0.str _ | exact Sees0.olds _ _ | exact Sees0.old _ | exact Sees0.oldagg _ | exact Sees0.nil | exact SeesB.of0 (Sees0.any _) | assumption | exact sees_gv _ _ _ (by assumption) (by first | assumption | exact BoxIn.last _ _ | exact BoxIn.more (BoxIn.last _ _) _) | refine SeesB.agg ?_ | refine Sees0.agg ?_ | exact SeesB.of0 (Sees0.clo SeesL.nil SeesL.nil) | exact Sees0.clo SeesL.nil SeesL.nil | exact SeesB.of0 (Sees0.list rfl) | exact Sees0.list rfl) ?_)
  all_goals try simp only [length_rows, length_strs, length_oldLL, List.length_map, Int.toNat_natCast] at *
  · exact hsz hi'
  · rw [length_tks]
  · intro c hc; rw [List.mem_singleton.1 hc]; exact tFct.htk _ _
  · rw [length_tks]; simp only [List.length_singleton]; omega
  · have h1 : (matM p (l.getD i default) b).isSome = true := by assumption
    refine ⟨i + 1, by omega, ?_, by omega⟩
    repeat' first
      | exact trivial | refine wr_ ?_ ?_ ?_ ?_ | refine And.intro ?_ ?_ | with_reducible rfl | exact ble_ | refine AV.int_congr ?_ | refine AV.list_congr ?_ | (apply rfl)
    · rw [acc_snoc, mch_yes hi' h1]
    · rw [wrap64 (by omega) (by omega)]; rfl
    · rw [length_tks, mch_yes hi' h1]; exact accFr_snoc _ _
  · have h1 : (matM p (l.getD i default) b).isSome = false := by assumption
    refine ⟨i + 1, by omega, ?_, by omega⟩
    repeat' first
      | exact trivial | refine wr_ ?_ ?_ ?_ ?_ | refine And.intro ?_ ?_ | with_reducible rfl | exact ble_ | refine AV.int_congr ?_ | refine AV.list_congr ?_ | (apply rfl)
    · rw [mch_no hi' h1]
    · rw [wrap64 (by omega) (by omega)]; rfl
    · rw [mch_no hi' h1]
  all_goals (exfalso; omega)
theorem sMatchingFacts.own (p : VPattern) (b : List VPair) (l : List Fct) (h1 : tPattern.size p ≤ 1048576) (h2 : tPairs.size b ≤ 1048576) (h : tFcts.size l ≤ 1048576) :
    sMatchingFacts.Own [.agg (oldL (tPattern.q p)), .list none (pairs b), .list none (facts l)] (fctsT (mchF p b l)) := acc_own (sMatchingFacts.ret p b l h1 h2 h)
theorem pMatchingFacts.own (p : VPattern) (b : List VPair) (l : List Fct) (h1 : tPattern.size p ≤ 1048576) (h2 : tPairs.size b ≤ 1048576) (h : tFcts.size l ≤ 1048576) :
    pMatchingFacts.OwnN [.agg (oldL (tPattern.q p)), .list none (pairs b), .list none (facts l)] (fctsT (mchF p b l)) := acc_own (pMatchingFacts.ret p b l h1 h2 h)
end Go.Proofs.YtoindmahilbalaaGreat
namespace Go.Proofs.YtoindmahilbalaaGreat
open Abs
def holdsCF (x : VCond) (b : List VPair) (l : List Fct) : Bool := isCondF x && bindF b && (if x.1 = 1 then decide (0 < ((mchF x.2.1 b l).length : Int)) else if x.1 = 2 then ((mchF x.2.1 b l).length : Int) == 0 else holdsTF x b)
theorem hcond_no {x : VCond} {b : List VPair} {l : List Fct} (h : (!isCondF x || !bindF b) = true) : false = holdsCF x b l := by
  unfold holdsCF; revert h; cases isCondF x <;> cases bindF b <;> simp
theorem hcond_at {x : VCond} {b : List VPair} {l : List Fct} (h : (!isCondF x || !bindF b) = false) : (if x.1 = 1 then decide (0 < ((mchF x.2.1 b l).length : Int)) else if x.1 = 2 then ((mchF x.2.1 b l).length : Int) == 0 else holdsTF x b) = holdsCF x b l := by
  unfold holdsCF; revert h; cases isCondF x <;> cases bindF b <;> simp
theorem sHoldsCond.ret (x : VCond) (b : List VPair) (l : List Fct) (h1 : tCond.size x ≤ 1048576) (h2 : tPairs.size b ≤ 1048576) (h : tFcts.size l ≤ 1048576) :
    sHoldsCond.Ret [.agg (oldL (tCond.q x)), .list none (pairs b), .list none (facts l)] (.val (.bool (holdsCF x b l))) [] := by
  refine sHoldsCond.ir.ofS rfl rfl ?_
  have hp := tCond_pat x
  have hm := sMatchingFacts.own x.2.1 b l (by omega) h2 h
  have hok : okT (fctsT (mchF x.2.1 b l)) = true := ok_list tFct _ _
  repeat' first
    | (conv => whnf
       first | refine Need.mk (fun h => h) ?_ | refine Need.mk rfl ?_ | refine nb_ ?_ | refine Fork.dec (fun _ => ?_) (fun _ => ?_) | refine Fork.mk (fun _ => ?_) (fun _ => ?_) | refine FinVal.keep ?_ | refine Final.mk ?_ rfl | refine ACall.scalA _ _ (sIsCond.ret _ ?_) rfl ?_ | refine AGCall.mkA _ _ (fun hg => sIsBinding.ret _ ?_) rfl ?_ | refine ACall.oldA _ _ (hm) ?_ | refine ACall.scalA _ _ (sHoldsTest.ret _ _ ?_ ?_) rfl ?_)
    | refine AV.bool_congr ?_
  all_goals first
    | assumption
    | exact hcond_no (by assumption)
    | (rw [length_oldLL, List.length_map, ← hcond_at (by assumption), if_pos (by assumption)])
    | (rw [length_oldLL, List.length_map, ← hcond_at (by assumption), if_neg (by assumption), if_pos (by assumption)])
    | (rw [← hcond_at (by assumption), if_neg (by assumption), if_neg (by assumption)])
theorem pHoldsCond.ret (x : VCond) (b : List VPair) (l : List Fct) (h1 : tCond.size x ≤ 1048576) (h2 : tPairs.size b ≤ 1048576) (h : tFcts.size l ≤ 1048576) :
    pHoldsCond.RetN [.agg (oldL (tCond.q x)), .list none (pairs b), .list none (facts l)] (.val (.bool (holdsCF x b l))) [] := by
  refine pHoldsCond.ir.ofS rfl rfl ?_
  have hp := tCond_pat x
  have hm := pMatchingFacts.own x.2.1 b l (by omega) h2 h
  have hok : okT (fctsT (mchF x.2.1 b l)) = true := ok_list tFct _ _
  repeat' first
    | (conv => whnf
       first | refine Need.mk (fun h => h) ?_ | refine Need.mk rfl ?_ | refine nb_ ?_ | refine Fork.dec (fun _ => ?_) (fun _ => ?_) | refine Fork.mk (fun _ => ?_) (fun _ => ?_) | refine FinVal.keep ?_ | refine Final.mk ?_ rfl | refine ACall.scalA _ _ (Ret.weak (pIsCond.ret _ ?_)) rfl ?_ | refine AGCall.mkA _ _ (fun hg => Ret.weak (pIsBinding.ret _ ?_)) rfl ?_ | refine ACall.oldA _ _ (hm) ?_ | refine ACall.scalA _ _ (Ret.weak (pHoldsTest.ret _ _ ?_ ?_)) rfl ?_)
    | refine AV.bool_congr ?_
  all_goals first
    | assumption
    | exact hcond_no (by assumption)
    | (rw [length_oldLL, List.length_map, ← hcond_at (by assumption), if_pos (by assumption)])
    | (rw [length_oldLL, List.length_map, ← hcond_at (by assumption), if_neg (by assumption), if_pos (by assumption)])
    | (rw [← hcond_at (by assumption), if_neg (by assumption), if_neg (by assumption)])
end Go.Proofs.YtoindmahilbalaaGreat
namespace Go.Proofs.YtoindmahilbalaaGreat
open Abs
theorem tPair_canon : Canon tPair := Canon.pair Canon.str Canon.str
theorem tStrs_canon : Canon tStrs := Canon.plain _ _ _ Canon.str
theorem tFct_canon : Canon tFct := Canon.pair Canon.str tStrs_canon
theorem tFcts_canon : Canon tFcts := Canon.list _ tFct_canon
theorem tPairs_canon : Canon tPairs := Canon.plain _ _ _ tPair_canon
theorem tToken_canon : Canon tToken := Canon.pair tFcts_canon tPairs_canon
theorem tTokens_canon : Canon tTokens := Canon.list _ tToken_canon
def nextF (l : List Fct) (x : VCond) (t : VToken) : List VToken :=
  if x.1 = 1 then l.filterMap fun f => (matM x.2.1 f t.2).map fun b => (t.1 ++ [f], b) else if holdsCF x t.2 l then [t] else []
def stepF (l : List Fct) (ts : List VToken) (x : VCond) : List VToken := ts.flatMap (nextF l x)
@[irreducible] def toksF (l : List Fct) (cs : List VCond) : List VToken := cs.foldl (stepF l) [([], [])]
theorem toksF_nil (l : List Fct) : toksF l [] = [([], [])] := by unfold toksF; rfl
theorem toksF_snoc (l : List Fct) (cs : List VCond) (x : VCond) : toksF l (cs ++ [x]) = stepF l (toksF l cs) x := by unfold toksF; rw [List.foldl_append]; rfl
theorem toksF_succ (l : List Fct) {cs : List VCond} {i : Nat} (hi : i < cs.length) : toksF l (cs.take (i + 1)) = stepF l (toksF l (cs.take i)) (cs.getD i default) := by
  rw [take_succ' default hi, toksF_snoc]
theorem stepF_take {l : List Fct} {x : VCond} {ts : List VToken} {i : Nat} (hi : i < ts.length) : stepF l (ts.take (i + 1)) x = stepF l (ts.take i) x ++ nextF l x (ts.getD i default) := by
  rw [take_succ' default hi, stepF, List.flatMap_append]; simp [stepF]
structure GoodT (l : List Fct) (n : Nat) (t : VToken) : Prop where
  le : t.1.length ≤ n
  mem : ∀ f ∈ t.1, f ∈ l
  bind : bindF t.2 = true
theorem matS_bind : ∀ (l : List (Str × Str)) {e e' : List VPair}, bindF e = true → matS e l = some e' → bindF e' = true
  | [], e, e', h, hm => by rw [matS] at hm; cases hm; exact h
  | q :: l, e, e', h, hm => by
    rw [matS] at hm
    split at hm
    · split at hm
      · exact matS_bind l h hm
      · cases hm
    · cases he : extF e q.1 q.2 with
      | none => rw [he] at hm; cases hm
      | some e2 => rw [he] at hm; exact matS_bind l (extF_bind he) hm
theorem matM_bind {p : VPattern} {f : Fct} {b e : List VPair} (h : matM p f b = some e) : bindF e = true := by
  unfold matM at h
  split at h
  · rename_i hc
    simp only [Bool.and_eq_true] at hc
    exact matS_bind _ hc.1.1.2 h
  · cases h
theorem bindF_nil : bindF [] = true := (bindF_iff []).2 ⟨Nat.zero_le _, by simp, List.Pairwise.nil⟩
theorem nextF_good {l : List Fct} {x : VCond} {n : Nat} {t t' : VToken} (h : GoodT l n t) (ht : t' ∈ nextF l x t) : GoodT l (n + 1) t' := by
  unfold nextF at ht
  split at ht
  · obtain ⟨f, hf, he⟩ := List.mem_filterMap.1 ht
    obtain ⟨b, hb, rfl⟩ := Option.map_eq_some_iff.1 he
    refine ⟨by have := h.le; simp only [List.length_append, List.length_singleton]; omega, fun g hg => ?_, matM_bind hb⟩
    rcases List.mem_append.1 hg with hg | hg
    · exact h.mem g hg
    · rw [List.mem_singleton.1 hg]; exact hf
  · split at ht
    · rw [List.mem_singleton.1 ht]; exact ⟨by have := h.le; omega, h.mem, h.bind⟩
    · cases ht
theorem stepF_good {l : List Fct} {x : VCond} {n : Nat} {ts : List VToken} (h : ∀ t ∈ ts, GoodT l n t) : ∀ t ∈ stepF l ts x, GoodT l (n + 1) t := fun t ht => by
  obtain ⟨u, hu, ht⟩ := List.mem_flatMap.1 ht
  exact nextF_good (h u hu) ht
theorem toksF_good (l : List Fct) (cs : List VCond) : ∀ (k : Nat), k ≤ cs.length → ∀ t ∈ toksF l (cs.take k), GoodT l k t
  | 0, _, t, ht => by
    rw [List.take_zero, toksF_nil] at ht
    rw [List.mem_singleton.1 ht]; exact ⟨Nat.le_refl _, by simp, bindF_nil⟩
  | k + 1, hk, t, ht => by
    rw [toksF_succ l (by omega)] at ht
    exact stepF_good (toksF_good l cs k (by omega)) t ht
theorem nextF_len {l : List Fct} (hl : l.length ≤ 24) (x : VCond) (t : VToken) : (nextF l x t).length ≤ 24 := by
  unfold nextF
  split
  · exact Nat.le_trans (List.length_filterMap_le _ _) hl
  · split <;> simp
theorem stepF_len {l : List Fct} (hl : l.length ≤ 24) (x : VCond) : ∀ ts : List VToken, (stepF l ts x).length ≤ 24 * ts.length
  | [] => Nat.le_refl _
  | t :: ts => by
    have h1 := nextF_len hl x t
    have h2 := stepF_len hl x ts
    rw [stepF, List.flatMap_cons, List.length_append, List.length_cons]
    rw [stepF] at h2
    omega
theorem toksF_len {l : List Fct} (hl : l.length ≤ 24) (cs : List VCond) : ∀ (k : Nat), k ≤ cs.length → (toksF l (cs.take k)).length ≤ 24 ^ k
  | 0, _ => by rw [List.take_zero, toksF_nil]; exact Nat.le_refl _
  | k + 1, hk => by
    rw [toksF_succ l (by omega)]
    have h1 := stepF_len hl (cs.getD k default) (toksF l (cs.take k))
    have h2 := toksF_len hl cs k (by omega)
    rw [Nat.pow_succ]; omega
theorem pow24 {k : Nat} (h : k ≤ 4) : 24 ^ k ≤ 331776 := Nat.le_trans (Nat.pow_le_pow_right (by decide) h) (by decide)
theorem toksF_len4 {l : List Fct} (hl : l.length ≤ 24) {cs : List VCond} (hc : cs.length ≤ 4) (k : Nat) : (toksF l (cs.take k)).length ≤ 331776 := by
  rcases Nat.le_total k cs.length with h | h
  · exact Nat.le_trans (toksF_len hl cs k h) (pow24 (by omega))
  · rw [List.take_of_length_le h]
    have := toksF_len hl cs cs.length (Nat.le_refl _)
    rw [List.take_length] at this
    exact Nat.le_trans this (pow24 hc)
theorem stepF_le {l : List Fct} (hl : l.length ≤ 24) {x : VCond} (ts : List VToken) (i : Nat) : (stepF l (ts.take i) x).length ≤ 24 * ts.length := by
  have h1 := stepF_len hl x (ts.take i)
  have h2 : (ts.take i).length ≤ ts.length := by rw [List.length_take]; omega
  omega
theorem atomF_le {s : Str} (h : atomF s = true) : s.length ≤ 8 := by
  simp only [atomF, Bool.and_eq_true, decide_eq_true_eq] at h; omega
theorem strs_le {l : List Str} (h : l.all atomF = true) : listSize Ty.str l ≤ 8 * l.length := by
  induction l with
  | nil => exact Nat.le_refl _
  | cons s l ih =>
    rw [List.all_cons, Bool.and_eq_true] at h
    have h1 := atomF_le h.1
    have h2 := ih h.2
    rw [List.length_cons]
    show s.length + listSize Ty.str l ≤ _
    omega
theorem fact_le {f : Fct} (h : isFactF f = true) : tFct.size f ≤ 35 := by
  unfold isFactF nameF at h
  simp only [Bool.and_eq_true, decide_eq_true_eq] at h
  have h1 := atomF_le h.1.1.1
  have h2 := strs_le h.2
  rw [tFct_size, tStrs_size]
  omega
theorem areF_fact {l : List Fct} (h : areF l = true) : ∀ f ∈ l, isFactF f = true := fun f hf => by
  obtain ⟨i, hi⟩ := List.getElem?_of_mem hf
  have hl := getElem?_lt hi
  have hg : l.getD i default = f := by rw [List.getD_eq_getElem?_getD, hi]; rfl
  cases hb : badAt l i with
  | true => rw [areF_no hl hb] at h; cases h
  | false => unfold badAt at hb; rw [Bool.or_eq_false_iff, hg] at hb; simpa using hb.1
theorem areF_len {l : List Fct} (h : areF l = true) : l.length ≤ 24 := by
  rcases Nat.lt_or_ge 24 l.length with h1 | h1
  · rw [areF_long (by omega)] at h; cases h
  · exact h1
theorem goodT_size {l : List Fct} {n : Nat} {t : VToken} (hl : ∀ f ∈ l, isFactF f = true) (h : GoodT l n t) (hn : n ≤ 5) : tFcts.size t.1 ≤ 180 ∧ tPairs.size t.2 ≤ 108 := by
  have h1 : ∀ m : List Fct, (∀ f ∈ m, isFactF f = true) → listSize tFct m ≤ 35 * m.length := by
    intro m
    induction m with
    | nil => exact fun _ => Nat.le_refl _
    | cons f m ih =>
      intro hm
      have h2 := fact_le (hm f List.mem_cons_self)
      have h3 := ih fun g hg => hm g (List.mem_cons_of_mem _ hg)
      rw [List.length_cons]
      show tFct.size f + listSize tFct m ≤ _
      omega
  have h2 := h1 t.1 fun f hf => hl f (h.mem f hf)
  have h3 := h.le
  obtain ⟨b1, b2, _⟩ := (bindF_iff _).1 h.bind
  have h4 := pairs_size b2
  rw [tFcts_size, tPairs_sz]
  omega
end Go.Proofs.YtoindmahilbalaaGreat
namespace Go.Proofs.YtoindmahilbalaaGreat
open Abs
theorem sCopies.ret (l : List Fct) (h : tFcts.size l ≤ 1048576) : sCopies.Ret [.list none (facts l)] (.list (some 0) (tks tFct l 1)) (accFr l) := by
  refine sCopies.ir.of rfl ?_
  rw [tFcts_size] at h
  repeat' first
    | (conv => whnf
       first | refine Need.mk rfl ?_)
  refine ALoop.mk Nat (fun i => ⟨[(0, .list none (facts l)), (3, .list (some 0) (tks tFct (l.take i) 1)), (4, .val (.int .i64 i))], [], accFr (l.take i)⟩) (fun i => i ≤ l.length) (fun i => l.length - i) ⟨0, Nat.zero_le _, ?_⟩ (fun i hi => ?_)
  · repeat' first
      | exact trivial | refine wl_ ?_ ?_ ?_ ?_ | refine And.intro ?_ ?_ | with_reducible rfl | exact ble_ | refine fr1 ?_ | refine AV.int_congr ?_ | refine AV.list_congr ?_ | (apply rfl)
  have hlen : (l.take i).length ≤ l.length := by rw [List.length_take]; omega
  repeat' first
    | (conv => whnf
       first | refine Need.mk rfl ?_ | refine nb_ ?_ | refine Need.mk ?_ ?_ | refine Ix.mapF (fun _ => rfl) ?_ | refine Fork.dec (fun _ => ?_) (fun _ => ?_) | refine Round.mk ?_ | refine Lit.read rfl ?_ | refine Final.mk ?_ ?_ | refine ACall.mkFct _ _ (sCopy.ret _ ?_) (by repeat' first | exact SeesL.nil | refine SeesL.cons ?_ ?_ | exact SeesB.of0 (Sees0.val _) | exact SeesB.of0 (Sees0.str _) | exact SeesB.of0 (Sees0.olds _ _) | exact SeesB.of0 (Sees0.old _) | exact SeesB.of0 (Sees0.oldagg _) | exact SeesB.of0 Sees0.nil | exact Sees0.val _ | exact Sees0.str _ | exact Sees0.olds _ _ | exact Sees0.old _ | exact Sees0.oldagg _ | exact Sees0.nil | exact SeesB.of0 (Sees0.any _) | assumption | exact sees_gv _ _ _ (by assumption) (by first | assumption | exact BoxIn.last _ _ | exact BoxIn.more (BoxIn.last _ _) _) | refine SeesB.agg ?_ | refine Sees0.agg ?_ | exact SeesB.of0 (Sees0.clo SeesL.nil SeesL.nil) | exact Sees0.clo SeesL.nil SeesL.nil | exact SeesB.of0 (Sees0.list rfl) | exact Sees0.list rfl) ?_)
    | refine AV.list_congr ?_
  all_goals try simp only [length_rows, length_strs, length_oldLL, List.length_map, Int.toNat_natCast] at *
  · have := fct_le (l := l) (i := i) (by omega); omega
  · rw [length_tks]
  · intro c hc; rw [List.mem_singleton.1 hc]; exact tFct.htk _ _
  · rw [length_tks]; simp; omega
  · refine ⟨i + 1, by omega, ?_, by omega⟩
    repeat' first
      | exact trivial | refine wl_ ?_ ?_ ?_ ?_ | refine And.intro ?_ ?_ | with_reducible rfl | exact ble_ | refine AV.int_congr ?_ | refine AV.list_congr ?_ | (apply rfl)
    · rw [acc_snoc, take_succ' default (by omega)]
    · rw [wrap64 (by omega) (by omega)]; rfl
    · show (accFr (l.take i) ++ tFct.fr (l.getD i default)).set 0 (_, _, (tks tFct (l.take i) 1).length + 1) = accFr (l.take (i + 1))
      rw [length_tks, take_succ' default (by omega)]; exact accFr_snoc _ _
  · rw [List.take_of_length_le (by omega)]
  · rw [List.take_of_length_le (by omega)]
theorem sCopies.own (l : List Fct) (h : tFcts.size l ≤ 1048576) : sCopies.Own [.list none (facts l)] (fctsT l) := acc_own (sCopies.ret l h)
end Go.Proofs.YtoindmahilbalaaGreat
namespace Go.Proofs
open Go.RowKit Go.Shelf
def Tryz.growS_ren : Go.Shelf.Ren := ⟨fun | 4 => 202 | n => n, fun | 22 => 77 | 25 => 9 | 3 => 3 | 4 => 4 | 9 => 9 | 20 => 20 | 0 => 0 | n => n, fun | n => n⟩
theorem Tryz.growS : Go.Proofs.Lays8.n4 Tryz.prog Tryz.growS_ren := {
  mixed := by kernel_rfl
  f4 := ⟨Tryz.f202.name, by decide, Tryz.func202.trans (congrArg some (by kernel_rfl))⟩
  t0 := Tryz.underlying0
  a0 := Tryz.isAgg0
  z0 := Tryz.sizeOf0
  v0 := Tryz.zeroValue0
  t3 := Tryz.underlying3
  a3 := Tryz.isAgg3
  z3 := Tryz.sizeOf3
  v3 := Tryz.zeroValue3
  t4 := Tryz.underlying4
  a4 := Tryz.isAgg4
  z4 := Tryz.sizeOf4
  v4 := Tryz.zeroValue4
  t9 := Tryz.underlying9
  a9 := Tryz.isAgg9
  z9 := Tryz.sizeOf9
  v9 := Tryz.zeroValue9
  t20 := Tryz.underlying20
  a20 := Tryz.isAgg20
  z20 := Tryz.sizeOf20
  v20 := Tryz.zeroValue20
  t22 := Tryz.underlying77
  a22 := Tryz.isAgg77
  z22 := Tryz.sizeOf77
  v22 := Tryz.zeroValue77 }
def Tryz.growC_ren : Go.Shelf.Ren := ⟨fun | 4 => 199 | n => n, fun | 22 => 31 | 25 => 116 | 3 => 3 | 4 => 4 | 9 => 9 | 20 => 20 | 0 => 0 | n => n, fun | n => n⟩
theorem Tryz.growC : Go.Proofs.Lays8.n4 Tryz.prog Tryz.growC_ren := {
  mixed := by kernel_rfl
  f4 := ⟨Tryz.f199.name, by decide, Tryz.func199.trans (congrArg some (by kernel_rfl))⟩
  t0 := Tryz.underlying0
  a0 := Tryz.isAgg0
  z0 := Tryz.sizeOf0
  v0 := Tryz.zeroValue0
  t3 := Tryz.underlying3
  a3 := Tryz.isAgg3
  z3 := Tryz.sizeOf3
  v3 := Tryz.zeroValue3
  t4 := Tryz.underlying4
  a4 := Tryz.isAgg4
  z4 := Tryz.sizeOf4
  v4 := Tryz.zeroValue4
  t9 := Tryz.underlying9
  a9 := Tryz.isAgg9
  z9 := Tryz.sizeOf9
  v9 := Tryz.zeroValue9
  t20 := Tryz.underlying20
  a20 := Tryz.isAgg20
  z20 := Tryz.sizeOf20
  v20 := Tryz.zeroValue20
  t22 := Tryz.underlying31
  a22 := Tryz.isAgg31
  z22 := Tryz.sizeOf31
  v22 := Tryz.zeroValue31 }
end Go.Proofs
namespace Go.Proofs.YtoindmahilbalaaGreat
open Abs Go.RowKit Go.Shelf
theorem slGrow.ret (n : Nat) (hn : n ≤ 4194304) : slGrow.Ret [.val (.slice none 0 0), .val (.int .i64 n)] (.list (some 0) []) [(9, 1, 0)] := by
  rw [slGrow.Ret, Ret_eq]
  refine ⟨by kernel_rfl, fun w F vs hout hargs => ?_⟩
  obtain ⟨v0, v1, rfl⟩ : ∃ v0 v1, vs = #[v0, v1] := by
    have := hargs.1
    match vs, this with
    | ⟨[a, b]⟩, _ => exact ⟨a, b, rfl⟩
  obtain ⟨h0, h1⟩ := Both.cons.1 hargs
  obtain ⟨h1, _⟩ := Both.cons.1 h1
  cases h0
  cases h1
  rcases Nat.eq_zero_or_pos n with rfl | hpos
  · refine (Any8.slices_Grow_room Tryz.growS none 0 0 0 w (by omega) (by omega) (by omega) (by omega)).mono ?_
    rintro e w' ⟨rfl, rfl⟩
    refine ⟨_, F, [none], [], rfl, Bel.refl _ _, fun _ _ => rfl, hout, rfl, fun k b h => ?_, fun k l b h => ?_, .list _ [] none 0 1 0 0 (fun _ _ => undef) (Nat.le_refl _) (fun h => absurd rfl h) (by simp) (fun h => absurd rfl h) (by simp) (by simp) (fun k hk => ?_)⟩
    · cases k <;> simp at h
    · cases k <;> simp at h
    · cases hk
      exact ⟨_, 1, 0, rfl, Nat.le_refl _, fun _ => ⟨rfl, ⟨[], World.ownsRow_nil _ _ _ _⟩, rfl, fun b h => by cases h⟩⟩
  · obtain ⟨el, ti, z, hu, hi, hz, hzs, hps, _, hel, hcz⟩ := goodElem_inv (P := Tryz.prog) (t := 77) (by kernel_rfl)
    have he : el = 9 := hel.symm.trans (by kernel_rfl)
    subst he
    have hsz : ti.size = 1 := hcz.symm.trans (by kernel_rfl)
    have hby : ti.bytes = 16 := by
      have h : bytesOf Tryz.prog 9 = ti.bytes := by unfold bytesOf; rw [hi]
      exact h.symm.trans (by kernel_rfl)
    have hzz : z.cells.size = 1 := hzs.trans hsz
    refine (Any8.slices_Grow_grow Tryz.growS ti z hi hz (by omega) none 0 0 n [] w (by omega) (by omega) (by rw [hby]; omega) (by omega) (by simp) (fun _ => rfl) (fun a h => by cases h)).mono ?_
    rintro e w' ⟨rfl, rfl⟩
    have hge := grownCap_ge w (0 + n) 0 9
    have hle := grownCap_le_maxLen w (0 + n) 0 9 (by unfold maxLen; omega)
    have hG : grownCap w (0 + n) 0 (Tryz.growS_ren.t 25) = grownCap w (0 + n) 0 9 := rfl
    rw [hG]
    generalize grownCap w (0 + n) 0 9 = G at hge hle
    refine ⟨_, F, [some w.heap.size], [], rfl, ((Bel.refl _ w).drew).alloc (Nat.le_refl _) _, fun _ _ => rfl, fun b hb => hout b ?_, rfl, fun k b h => ?_, fun k l b h1 h2 => ?_, .list _ [] (some ⟨w.heap.size, 0, none⟩) G 1 w.heap.size 0 (fun _ _ => undef) (Nat.zero_le _) (fun h => absurd rfl h) (by simp) (fun h => absurd rfl h) (by simp) (by simp) (fun k hk => ?_)⟩
    · have : w.heap.size + 1 ≤ b := by simpa using hb
      omega
    · cases k with
      | zero => simp at h; subst h; exact ⟨Nat.le_refl _, by simp⟩
      | succ k => simp at h
    · cases k <;> cases l <;> simp at h1 h2
      rfl
    · cases hk
      refine ⟨_, 1, 0, rfl, Nat.le_refl _, fun _ => ⟨rfl, ⟨[], rfl, Or.inr ⟨w.heap.size, G, _, rfl, Nat.le_refl _, heap_alloc_new w.drew _, Nat.zero_le _, hle, ?_, by simp⟩⟩, rfl, fun b h => ?_⟩⟩
      · simp [Builtin.zeroCells, hzz]; omega
      · cases h; rw [hout _ (Nat.le_refl _)]; rfl
def sumN (a b : List Str) (i : Nat) : Nat := if i = 0 then 0 else if i = 1 then a.length else a.length + b.length
def catN (a b : List Str) (i : Nat) : List Str := if i = 0 then [] else if i = 1 then a else a ++ b
theorem slConcat2.ret (a b : List Str) (ha : a.length ≤ 1048576) (hb : b.length ≤ 1048576) : slConcat.Ret [.list none [[.list none (strs a)], [.list none (strs b)]]] (.list (some 0) (strs (a ++ b))) [(9, 1, (a ++ b).length)] := by
  refine slConcat.ir.of rfl ?_
  have e1 : IntKind.i64.wrap ((0 : Int) + (strs a).length) = a.length := by rw [length_strs, wrap64 (by omega) (by omega)]; omega
  have e2 : IntKind.i64.wrap ((a.length : Int) + (strs b).length) = ((a.length + b.length : Nat) : Int) := by rw [length_strs, wrap64 (by omega) (by omega)]; omega
  skip
  refine ALoop.mk Nat (fun i => ⟨[(0, .list none [[.list none (strs a)], [.list none (strs b)]]), (3, .val (.int .i64 (sumN a b i))), (9, .list none [[.list none (strs a)], [.list none (strs b)]]), (10, .val (.int .i64 2)), (11, .val (.int .i64 i))], [], []⟩) (fun i => i ≤ 2) (fun i => 2 - i) ⟨0, by omega, ?_⟩ (fun i hi => ?_)
  · repeat' first
      | exact trivial | refine wl_ ?_ ?_ ?_ ?_ | refine And.intro ?_ ?_ | with_reducible rfl | exact ble_ | refine AV.int_congr ?_ | refine AV.list_congr ?_ | (apply rfl)
  have hc : i = 0 ∨ i = 1 ∨ i = 2 := by omega
  rcases hc with rfl | rfl | rfl
  · have hix : (0 : Int) ≤ (0 : Nat) ∧ [[AV.list none (strs a)], [AV.list none (strs b)]][((0 : Nat) : Int).toNat]? = some [AV.list none (strs a)] ∧ 1 = 1 := ⟨by omega, rfl, rfl⟩
    repeat' first
      | (conv => whnf
         first | refine Need.mk rfl ?_ | refine Ix.mk _ (fun _ => hix) ?_ | refine Fork.decYes (by omega) ?_ | refine Fork.dec (fun _ => ?_) (fun _ => ?_) | refine Round.mk ?_)
    · rename_i h
      have h : IntKind.i64.wrap ((0 : Int) + (strs a).length) < 0 := h
      rw [e1] at h; omega
    · refine ⟨1, by omega, ?_, by omega⟩
      repeat' first
        | exact trivial | refine wl_ ?_ ?_ ?_ ?_ | refine And.intro ?_ ?_ | with_reducible rfl | exact ble_ | refine AV.int_congr ?_ | refine AV.list_congr ?_ | (apply rfl)
      exact e1
  · have hix : (0 : Int) ≤ (1 : Nat) ∧ [[AV.list none (strs a)], [AV.list none (strs b)]][((1 : Nat) : Int).toNat]? = some [AV.list none (strs b)] ∧ 1 = 1 := ⟨by omega, rfl, rfl⟩
    repeat' first
      | (conv => whnf
         first | refine Need.mk rfl ?_ | refine Ix.mk _ (fun _ => hix) ?_ | refine Fork.decYes (by omega) ?_ | refine Fork.dec (fun _ => ?_) (fun _ => ?_) | refine Round.mk ?_)
    · rename_i h
      have h : IntKind.i64.wrap ((a.length : Int) + (strs b).length) < 0 := h
      rw [e2] at h; omega
    · refine ⟨2, by omega, ?_, by omega⟩
      repeat' first
        | exact trivial | refine wl_ ?_ ?_ ?_ ?_ | refine And.intro ?_ ?_ | with_reducible rfl | exact ble_ | refine AV.int_congr ?_ | refine AV.list_congr ?_ | (apply rfl)
      exact e2
  have hg : slGrow.Ret [.val (.slice none 0 0), .val (.int .i64 (sumN a b 2))] (.list (some 0) []) [(9, 1, 0)] := slGrow.ret (a.length + b.length) (by omega)
  repeat' first
    | (conv => whnf
       first | refine Need.mk rfl ?_ | refine Fork.decNo (by omega) ?_ | refine ACall.mkR _ _ _ (hg) ?_)
  refine ALoop.mk Nat (fun i => ⟨[(0, .list none [[.list none (strs a)], [.list none (strs b)]]), (6, .list (some 0) (strs (catN a b i))), (25, .list none [[.list none (strs a)], [.list none (strs b)]]), (26, .val (.int .i64 2)), (27, .val (.int .i64 i))], [], [(9, 1, (catN a b i).length)]⟩) (fun i => i ≤ 2) (fun i => 2 - i) ⟨0, by omega, ?_⟩ (fun i hi => ?_)
  · repeat' first
      | exact trivial | refine wl_ ?_ ?_ ?_ ?_ | refine And.intro ?_ ?_ | with_reducible rfl | exact ble_ | refine fr1 ?_ | refine AV.int_congr ?_ | refine AV.list_congr ?_ | (apply rfl)
  have hc : i = 0 ∨ i = 1 ∨ i = 2 := by omega
  rcases hc with rfl | rfl | rfl
  · have hix : (0 : Int) ≤ (0 : Nat) ∧ [[AV.list none (strs a)], [AV.list none (strs b)]][((0 : Nat) : Int).toNat]? = some [AV.list none (strs a)] ∧ 1 = 1 := ⟨by omega, rfl, rfl⟩
    repeat' first
      | (conv => whnf
         first | refine Need.mk rfl ?_ | refine Need.mk ?_ ?_ | refine Ix.mk _ (fun _ => hix) ?_ | refine Fork.decYes (by omega) ?_ | refine Round.mk ?_)
    · exact strs_sz a
    · rw [length_strs, length_strs]; simp [catN]; omega
    · refine ⟨1, by omega, ?_, by omega⟩
      repeat' first
        | exact trivial | refine wl_ ?_ ?_ ?_ ?_ | refine And.intro ?_ ?_ | with_reducible rfl | exact ble_ | refine fr1 ?_ | refine AV.int_congr ?_ | refine AV.list_congr ?_ | (apply rfl)
      show (strs []).length + (strs a).length = a.length
      simp
  · have hix : (0 : Int) ≤ (1 : Nat) ∧ [[AV.list none (strs a)], [AV.list none (strs b)]][((1 : Nat) : Int).toNat]? = some [AV.list none (strs b)] ∧ 1 = 1 := ⟨by omega, rfl, rfl⟩
    repeat' first
      | (conv => whnf
         first | refine Need.mk rfl ?_ | refine Need.mk ?_ ?_ | refine Ix.mk _ (fun _ => hix) ?_ | refine Fork.decYes (by omega) ?_ | refine Round.mk ?_)
    · simp
    · exact strs_sz b
    · rw [length_strs, length_strs]; simp [catN]; omega
    · refine ⟨2, by omega, ?_, by omega⟩
      repeat' first
        | exact trivial | refine wl_ ?_ ?_ ?_ ?_ | refine And.intro ?_ ?_ | with_reducible rfl | exact ble_ | refine fr1 ?_ | refine AV.int_congr ?_ | refine AV.list_congr ?_ | (apply rfl)
      · exact (strs_append a b).symm
      · show (strs a).length + (strs b).length = (a ++ b).length
        simp
  · repeat' first
      | (conv => whnf
         first | refine Need.mk rfl ?_ | refine Fork.decNo (by omega) ?_ | refine Final.mk rfl rfl)
theorem vs_app (l m : List Str) : vs (l ++ m) = vs l ++ vs m := by simp [vs]
def cvF (x : VCond) : List Str := x.2.1.2 ++ [x.2.2.1, x.2.2.2]
theorem pCondVars.ret (x : VCond) (h : tCond.size x ≤ 1048576) : pCondVars.Ret [.agg (oldL (tCond.q x))] (.list (some 4) (strs (insAll blt (vs (cvF x))))) [(9, 1, 2), (77, 1, 2), (9, 1, (cvF x).length), (9, 1, (vs (cvF x)).length), (9, 1, (insAll blt (vs (cvF x))).length)] := by
  refine pCondVars.ir.of rfl ?_
  have hz : tCond.size x = x.2.1.1.length + (x.2.1.2.length + listSize Ty.str x.2.1.2) + (x.2.2.1.length + x.2.2.2.length) := tCond_sz x
  have hc : slConcat.Ret [.list none [[.list none (strs x.2.1.2)], [.list none [[.str x.2.2.1], [.str x.2.2.2]]]]] (.list (some 0) (strs (cvF x))) [(9, 1, (cvF x).length)] := slConcat2.ret x.2.1.2 [x.2.2.1, x.2.2.2] (by omega) (by simp)
  have hv := pvarsAmong.ret (cvF x) (by simp [cvF]; omega) (by
    have : listSize Ty.str (cvF x) = listSize Ty.str x.2.1.2 + (x.2.2.1.length + (x.2.2.2.length + 0)) := by
      unfold cvF
      induction x.2.1.2 with
      | nil => simp [listSize, Ty.str]
      | cons y l ih =>
        have e1 : listSize Ty.str ((y :: l) ++ [x.2.2.1, x.2.2.2]) = y.length + listSize Ty.str (l ++ [x.2.2.1, x.2.2.2]) := rfl
        have e2 : listSize Ty.str (y :: l) = y.length + listSize Ty.str l := rfl
        rw [e1, e2, ih]; omega
    omega)
  repeat' first
    | (conv => whnf
       first | refine Need.mk rfl ?_)
  conv => whnf
  refine ACall.mkStrs _ _ hc (.cons (Sees0.list ?_) .nil) ?_
  · show [[AV.list none (mapTLL noTok (oldLL (x.2.1.2.map Ty.str.q)))], [AV.list none [[.str x.2.2.1], [.str x.2.2.2]]]] = _
    rw [mapTLL_old]; rfl
  repeat' first
    | (conv => whnf
       first | refine Final.mk rfl rfl | refine ACall.mkLA _ _ _ _ (hv) ?_)
theorem own_rowF {F : Fr} {l l' : List Str} {k : Nat} (hk : F[k]? = some (9, 1, l.length)) (e : l = l') : ∃ ts, OwnA F [strT l'] [.list (some k) (strs l)] ts ∧ ts.Nodup := by
  subst e
  exact ⟨[k], .l _ _ _ k (strs l) (by simpa using hk) (by simp) (fun e he => by obtain ⟨s, _, rfl⟩ := List.mem_map.1 he; rfl) (strs_sz _) (own_strs F l) .nil, by simp⟩
theorem var_pos {s : Str} (h : varF s = true) : 1 ≤ s.length := by
  unfold varF at h
  simp only [Bool.and_eq_true, decide_eq_true_eq] at h
  omega
theorem cv_eq (x : VCond) : vs (cvF x) = vs x.2.1.2 ++ (if varF x.2.2.1 then [x.2.2.1] else []) ++ (if varF x.2.2.2 then [x.2.2.2] else []) := by
  rw [cvF, vs_app, List.append_assoc]
  congr 1
  unfold vs
  rw [List.filter_cons, List.filter_cons]
  split <;> split <;> rfl
theorem pCondVars.own (x : VCond) (h : tCond.size x ≤ 1048576) : pCondVars.Own [.agg (oldL (tCond.q x))] (strT (insAll blt (vs (cvF x)))) := own_row rfl (pCondVars.ret x h)
theorem sCondVars.own (x : VCond) (h : tCond.size x ≤ 1048576) : sCondVars.Own [.agg (oldL (tCond.q x))] (strT (insAll blt (vs (cvF x)))) := by
  refine Abs.IrAt.ownP sCondVars.ir rfl ?_
  have hp := tCond_pat x
  have hz : tCond.size x = x.2.1.1.length + (x.2.1.2.length + listSize Ty.str x.2.1.2) + (x.2.2.1.length + x.2.2.2.length) := tCond_sz x
  have hil := insAll_le (vs x.2.1.2)
  have hvl : (vs x.2.1.2).length ≤ x.2.1.2.length := List.length_filter_le varF x.2.1.2
  have hin := insAll_le (vs x.2.1.2 ++ [x.2.2.1])
  rw [ins_snoc, List.length_append, List.length_singleton] at hin
  have hce := cv_eq x
  have hfl := frS_len (vs x.2.1.2) (vs x.2.1.2).length
  have hfg : (frS (vs x.2.1.2) (vs x.2.1.2).length)[(vs x.2.1.2).length]? = some (9, 1, (insAll blt (vs x.2.1.2)).length) := by simp [frS, accS]
  have hvo := sVarsOf.ret x.2.1 (by omega)
  generalize frS (vs x.2.1.2) (vs x.2.1.2).length = fs at hfl hfg hvo
  repeat' first
    | (conv => whnf
       first | refine nb_ ?_ | refine Fork.mk (fun _ => ?_) (fun _ => ?_) | refine ACall.scalA _ _ (sIsVar.ret _ ?_) rfl ?_ | refine ACall.mkLA _ _ _ _ (hvo) ?_ | refine ACall.mkStrs _ _ (sPut.ret _ _ ?_) (by repeat' first | exact SeesL.nil | refine SeesL.cons ?_ ?_ | exact SeesB.of0 (Sees0.val _) | exact SeesB.of0 (Sees0.str _) | exact SeesB.of0 (Sees0.olds _ _) | exact SeesB.of0 (Sees0.old _) | exact SeesB.of0 (Sees0.oldagg _) | exact SeesB.of0 Sees0.nil | exact Sees0.val _ | exact Sees0.str _ | exact Sees0.olds _ _ | exact Sees0.old _ | exact Sees0.oldagg _ | exact Sees0.nil | exact SeesB.of0 (Sees0.any _) | assumption | exact sees_gv _ _ _ (by assumption) (by first | assumption | exact BoxIn.last _ _ | exact BoxIn.more (BoxIn.last _ _) _) | refine SeesB.agg ?_ | refine Sees0.agg ?_ | exact SeesB.of0 (Sees0.clo SeesL.nil SeesL.nil) | exact Sees0.clo SeesL.nil SeesL.nil | exact SeesB.of0 (Sees0.list rfl) | exact Sees0.list rfl) ?_)
  · omega
  · omega
  · omega
  · have := var_pos ‹varF x.2.2.1 = true›; omega
  · rename_i h1 h2
    rw [if_pos h1, if_pos h2] at hce
    conv => whnf
    refine own_rowF (by simp [hfl]) ?_
    rw [hce, ins_snoc, ins_snoc]
  · rename_i h1 h2
    rw [if_pos h1, if_neg (by simp [h2]), List.append_nil] at hce
    conv => whnf
    refine own_rowF (by simp [hfl]) ?_
    rw [hce, ins_snoc]
  · omega
  · omega
  · rename_i h1 h2
    rw [if_neg (by simp [h1]), if_pos h2, List.append_nil] at hce
    conv => whnf
    refine own_rowF (by simp [hfl]) ?_
    rw [hce, ins_snoc]
  · rename_i h1 h2
    rw [if_neg (by simp [h1]), if_neg (by simp [h2]), List.append_nil, List.append_nil] at hce
    conv => whnf
    refine own_rowF (l := insAll blt (vs x.2.1.2)) (by simpa using hfg) (by rw [hce])
end Go.Proofs.YtoindmahilbalaaGreat
namespace Go.Proofs.YtoindmahilbalaaGreat
open Abs
theorem SeesB.strs {bx : List ABox} {j t : Nat} {l : List Str} (hj : bx[j]? = some (.cells (.row t 1) (strs l).flatten)) : SeesB bx (.bsl j l.length) (.list none (Abs.strs l)) := by
  refine SeesB.bsl hj (by simp) (strs_sz l) ?_
  rw [strs_eq]
  clear hj
  induction l with
  | nil => exact .nil
  | cons s l ih => exact .cons (SeesB.of0 (Sees0.str s)) ih
theorem inBL_of {m : Nat} : ∀ {cs : List AV}, (∀ c ∈ cs, inB m c) → inB.inBL m cs
  | [], _ => trivial
  | c :: cs, h => ⟨h c (by simp), inBL_of fun d hd => h d (by simp [hd])⟩
end Go.Proofs.YtoindmahilbalaaGreat
namespace Go.Proofs.YtoindmahilbalaaGreat
open Abs
theorem Abs.Need.finN {p q : Prop} (k : q) (h : p := by intros; (try simp only [length_strs] at *); (try simp only [length_rows] at *); (try simp only [length_oldLL, List.length_map, Int.toNat_natCast] at *); (try simp only [Bool.and_eq_true, decide_eq_true_eq] at *); omega) : Need p q := ⟨h, k⟩
theorem Abs.Ix.strsN {gd : Bool} {l : List Str} {i : Int} {sz : Nat} {k : List AV → Prop} (hs : 1 = sz) (hk : k [.str (l.getD i.toNat [])]) (h : gd = true → 0 ≤ i ∧ i < l.length := by intros; (try simp only [length_strs] at *); (try simp only [length_rows] at *); (try simp only [length_oldLL, List.length_map, Int.toNat_natCast] at *); (try simp only [Bool.and_eq_true, decide_eq_true_eq] at *); omega) : Ix gd (Abs.strs l) i sz k := Ix.strs hs h hk
theorem Abs.Ix.mapN {α : Type} [Inhabited α] {gd : Bool} {l : List α} {q : α → List Tr} {i : Int} {sz : Nat} {k : List AV → Prop} (hs : ∀ a, (q a).length = sz) (hk : k (oldL (q (l.getD i.toNat default)))) (h : gd = true → 0 ≤ i ∧ i < l.length := by intros; (try simp only [length_strs] at *); (try simp only [length_rows] at *); (try simp only [length_oldLL, List.length_map, Int.toNat_natCast] at *); (try simp only [Bool.and_eq_true, decide_eq_true_eq] at *); omega) : Ix gd (oldLL (l.map q)) i sz k := Ix.map hs h hk
theorem Abs.Fork.decY {c : Prop} [Decidable c] {p q : Prop} (k : p) (h : c := by (try simp only [length_oldLL, length_rows, length_strs, length_tks, List.length_map, Int.toNat_natCast]); omega) : Fork (decide c) p q := .decYes h k
theorem Abs.Fork.decN {c : Prop} [Decidable c] {p q : Prop} (k : q) (h : ¬ c := by (try simp only [length_oldLL, length_rows, length_strs, length_tks, List.length_map, Int.toNat_natCast]); omega) : Fork (decide c) p q := .decNo h k
theorem Abs.Fork.andY {a b : Prop} [Decidable a] [Decidable b] {p q : Prop} (k : p) (h : a ∧ b := by (try simp only [length_oldLL, length_rows, length_strs, length_tks, List.length_map, Int.toNat_natCast]); omega) : Fork (decide a && decide b) p q := .yes (by simp [h.1, h.2]) k
theorem Abs.Fork.andN {a b : Prop} [Decidable a] [Decidable b] {p q : Prop} (k : q) (h : ¬ (a ∧ b) := by (try simp only [length_oldLL, length_rows, length_strs, length_tks, List.length_map, Int.toNat_natCast]); omega) : Fork (decide a && decide b) p q := .no (by rw [← Bool.decide_and]; exact decide_eq_false h) k
theorem ok_strT (l : List Str) : okT (strT l) = true := ok_list Ty.str _ l
theorem Abs.SeesB.bptr1 {bx : List ABox} {j : Nat} {x y : AV} (hj : bx[j]? = some (.cells .var [x])) (h : SeesB bx x y) (hn : noRef y = true) : SeesB bx (.bptr j 0) (.rptr [y]) :=
  SeesB.bptr (off := 0) (ys := [y]) hj (SeesL.cons h SeesL.nil) (fun z hz => by rw [List.mem_singleton.1 hz]; exact hn)
theorem Abs.Sees0.takeold {n : Nat} {xs : List Tr} (h : xs.length = n) : Sees0 (.agg (List.take n (oldL xs))) (.agg (oldL xs)) := by
  rw [List.take_of_length_le (by rw [oldL_eq, List.length_map, h]; exact Nat.le_refl _)]
  exact Sees0.oldagg xs
theorem Abs.Sees0.rptrL (xs : List (List Tr)) : Sees0 (.rptr [.list none (oldLL xs)]) (.rptr [.list none (oldLL xs)]) := Sees0.erase (by
  show AV.rptr [AV.list none (mapTLL noTok (oldLL xs))] = _
  rw [mapTLL_old])
theorem Abs.ACall.scalC {C : Con} {lend : Bool} {f : Nat} {vs : List AV} {b : List ABox} {fr : Fr} {k : AV → List ABox → Fr → Prop} (ys : List AV) (r : AV) (h : C.ret f ys r []) (hr : isScalR r = true) (hk : k r b fr)
    (hv : SeesL (SeesB b) vs ys := by repeat' first | exact SeesL.nil | refine SeesL.cons ?_ ?_ | exact SeesB.of0 (Sees0.val _) | exact SeesB.of0 (Sees0.str _) | exact SeesB.of0 (Sees0.olds _ _) | exact SeesB.of0 (Sees0.old _) | exact SeesB.of0 (Sees0.oldagg _) | exact SeesB.of0 Sees0.nil | exact SeesB.of0 (Sees0.clo SeesL.nil SeesL.nil) | refine SeesB.of0 (Sees0.takeold (n := _) ?_) | exact SeesB.of0 (Sees0.rptrL _) | exact SeesB.of0 (Sees0.erase rfl) | exact SeesB.of0 (Sees0.list rfl) | refine SeesB.clo ?_ ?_ | refine SeesB.bptr1 rfl ?_ rfl | refine SeesB.agg ?_ | rfl) : ACall C lend f vs b fr k := .scal ys r h hr hv hk
theorem Abs.AGCall.scalC {C : Con} {f : Nat} {vs : List AV} {gd : Bool} {b : List ABox} {k : AV → Prop} (ys : List AV) (r : AV) (h : gd = true → C.ret f ys r []) (hr : isScalR r = true) (hk : k r)
    (hv : SeesL (SeesB b) vs ys := by repeat' first | exact SeesL.nil | refine SeesL.cons ?_ ?_ | exact SeesB.of0 (Sees0.val _) | exact SeesB.of0 (Sees0.str _) | exact SeesB.of0 (Sees0.olds _ _) | exact SeesB.of0 (Sees0.old _) | exact SeesB.of0 (Sees0.oldagg _) | exact SeesB.of0 Sees0.nil | exact SeesB.of0 (Sees0.clo SeesL.nil SeesL.nil) | refine SeesB.of0 (Sees0.takeold (n := _) ?_) | exact SeesB.of0 (Sees0.rptrL _) | exact SeesB.of0 (Sees0.erase rfl) | exact SeesB.of0 (Sees0.list rfl) | refine SeesB.clo ?_ ?_ | refine SeesB.bptr1 rfl ?_ rfl | refine SeesB.agg ?_ | rfl) : AGCall C f vs gd b k := .scal (.mk ys r h hr (fun _ => hv) hk)
theorem mem_insB {l : List Str} {x : Str} : x ∈ insAll blt l ↔ x ∈ l := insAll_mem blt_sto l x
theorem insB_congr {l m : List Str} (h : ∀ x, x ∈ l ↔ x ∈ m) : insAll blt l = insAll blt m :=
  Asc.unique blt_sto (insAll_asc blt_sto l) (insAll_asc blt_sto m) fun x => by rw [mem_insB, mem_insB]; exact h x
theorem insB_left (l m : List Str) : insAll blt (insAll blt l ++ m) = insAll blt (l ++ m) := insB_congr fun x => by simp [mem_insB]
section
variable {α : Type}
def fm (f : α → List Str) (l : List α) : List Str := l.flatMap f
theorem fm_take (d : α) (f : α → List Str) {l : List α} {i : Nat} (h : i < l.length) : fm f (l.take (i + 1)) = fm f (l.take i) ++ f (l.getD i d) := by
  rw [take_succ' d h]; simp [fm]
theorem fm_mem {f : α → List Str} {l : List α} {x : Str} : x ∈ fm f l ↔ ∃ a ∈ l, x ∈ f a := by simp [fm]
theorem fm_len (T : Ty α) (f : α → List Str) (h : ∀ a, (f a).length ≤ T.size a) : ∀ l : List α, (fm f l).length ≤ listSize T l
  | [] => Nat.le_refl _
  | a :: l => by
    have ih := fm_len T f h l
    have e : listSize T (a :: l) = T.size a + listSize T l := rfl
    have e2 : fm f (a :: l) = f a ++ fm f l := rfl
    have := h a
    rw [e, e2, List.length_append]; omega
theorem fm_lenT (T : Ty α) (f : α → List Str) (h : ∀ a, (f a).length ≤ T.size a) (l : List α) (i : Nat) : (fm f (l.take i)).length ≤ listSize T l :=
  Nat.le_trans (fm_len T f h _) (listSize_take_le T l i)
theorem size_app (l m : List Str) : listSize Ty.str (l ++ m) = listSize Ty.str l + listSize Ty.str m := by
  induction l with
  | nil => simp [listSize]
  | cons x l ih =>
    have e : listSize Ty.str (x :: l) = x.length + listSize Ty.str l := rfl
    have e2 : listSize Ty.str (x :: l ++ m) = x.length + listSize Ty.str (l ++ m) := rfl
    rw [e, e2, ih]; omega
end
theorem cvF_size (x : VCond) : listSize Ty.str (cvF x) ≤ tCond.size x := by
  have hz := tCond_sz x
  have e : listSize Ty.str [x.2.2.1, x.2.2.2] = x.2.2.1.length + (x.2.2.2.length + 0) := rfl
  rw [cvF, size_app, e]; omega
theorem ins_vs_len (l : List Str) : (insAll blt (vs l)).length ≤ listSize Ty.str l := Nat.le_trans (insAll_le _) (vs_sz l)
theorem tAction_sz (a : VAction) : tAction.size a = a.2.1.length + (a.2.2.length + listSize Ty.str a.2.2) := by
  have h : tAction.size a = 0 + tFct.size a.2 := rfl
  rw [h, tFct_size, tStrs_size]; omega
theorem tRule_sz (r : VRule) : tRule.size r = r.1.length + (r.2.2.1.length + listSize tCond r.2.2.1) + (r.2.2.2.length + listSize tAction r.2.2.2) := by
  have h1 : tConds.size r.2.2.1 = r.2.2.1.length + listSize tCond r.2.2.1 := rfl
  have h2 : tActions.size r.2.2.2 = r.2.2.2.length + listSize tAction r.2.2.2 := rfl
  rw [tRule_size, h1, h2]; omega
def bvC (x : VCond) : List Str := if x.1 = 1 then insAll blt (vs x.2.1.2) else []
def cvC (x : VCond) : List Str := insAll blt (vs (cvF x))
def avC (a : VAction) : List Str := insAll blt (vs a.2.2)
theorem bvC_len (x : VCond) : (bvC x).length ≤ tCond.size x := by
  have hz := tCond_sz x
  have := ins_vs_len x.2.1.2
  unfold bvC; split
  · omega
  · simp
theorem cvC_len (x : VCond) : (cvC x).length ≤ tCond.size x := Nat.le_trans (ins_vs_len _) (cvF_size x)
theorem avC_len (x : VAction) : (avC x).length ≤ tAction.size x := by
  have hz := tAction_sz x
  have := ins_vs_len x.2.2
  unfold avC; omega
def isActF (a : VAction) : Bool := if hasKind a.1 then isPatF a.2 else if a.1 = 3 then zeroP a.2 else false
def bvF (l : List VCond) (n : Nat) : List Str := insAll blt (fm bvC (l.take n))
def cvsF (l : List VCond) : List Str := insAll blt (fm cvC l)
def rvF (l : List VCond) (m : List VAction) : List Str := insAll blt (fm cvC l ++ fm avC m)
def elseF (l : List VCond) (m : List VAction) (i : Nat) (v : Str) : Bool := decide (v ∈ fm cvC (l.take i ++ l.drop (i + 1)) ++ fm avC m)
def okV (l : List VCond) (m : List VAction) (i : Nat) (x : VCond) (v : Str) : Bool := decide (v ∈ bvF l i) || (!isTestF x && !(x.1 == 2 && elseF l m i v))
def okC (l : List VCond) (m : List VAction) (i : Nat) (x : VCond) : Bool := isCondF x && (!(i == 0) || x.1 == 1) && (cvC x).all (okV l m i x)
def okA (b : List Str) (a : VAction) : Bool := isActF a && (avC a).all fun v => decide (v ∈ b)
def isRuleF (r : VRule) : Bool :=
  nameF r.1 && decide (0 ≤ r.2.1) && decide (r.2.1 ≤ 9) && decide (1 ≤ r.2.2.1.length) && decide (r.2.2.1.length ≤ 4) && decide (1 ≤ r.2.2.2.length) && decide (r.2.2.2.length ≤ 2)
    && ((List.range r.2.2.1.length).all fun i => okC r.2.2.1 r.2.2.2 i (r.2.2.1.getD i default)) && r.2.2.2.all (okA (bvF r.2.2.1 r.2.2.1.length)) && decide ((cvsF r.2.2.1).length ≤ 6)
theorem bvC_sub {x : VCond} {v : Str} (h : v ∈ bvC x) : v ∈ cvC x := by
  unfold bvC at h
  split at h
  · rw [cvC, mem_insB]
    rw [mem_insB] at h
    rw [cv_eq]
    simp [h]
  · cases h
theorem bvF_mem {l : List VCond} {n : Nat} {v : Str} : v ∈ bvF l n ↔ ∃ x ∈ l.take n, v ∈ bvC x := by rw [bvF, mem_insB, fm_mem]
theorem rv_cvs {l : List VCond} {m : List VAction} (h : m.all (okA (bvF l l.length)) = true) : rvF l m = cvsF l := by
  refine insB_congr fun v => ?_
  rw [List.mem_append]
  refine ⟨fun hv => ?_, .inl⟩
  rcases hv with hv | hv
  · exact hv
  · obtain ⟨a, ha, hv⟩ := fm_mem.1 hv
    have h1 := List.all_eq_true.1 h a ha
    rw [okA, Bool.and_eq_true] at h1
    have h2 := of_decide_eq_true (List.all_eq_true.1 h1.2 v hv)
    obtain ⟨x, hx, hv⟩ := bvF_mem.1 h2
    rw [List.take_length] at hx
    exact fm_mem.2 ⟨x, hx, bvC_sub hv⟩
theorem rule_no {r : VRule} (h : ¬ (nameF r.1 = true ∧ 0 ≤ r.2.1 ∧ r.2.1 ≤ 9 ∧ 1 ≤ r.2.2.1.length ∧ r.2.2.1.length ≤ 4 ∧ 1 ≤ r.2.2.2.length ∧ r.2.2.2.length ≤ 2)) : isRuleF r = false := by
  rw [Bool.eq_false_iff]
  intro h'
  simp only [isRuleF, Bool.and_eq_true, decide_eq_true_eq] at h'
  exact h ⟨h'.1.1.1.1.1.1.1.1.1, h'.1.1.1.1.1.1.1.1.2, h'.1.1.1.1.1.1.1.2, h'.1.1.1.1.1.1.2, h'.1.1.1.1.1.2, h'.1.1.1.1.2, h'.1.1.1.2⟩
theorem rule_noC {r : VRule} {i : Nat} (hi : i < r.2.2.1.length) (h : okC r.2.2.1 r.2.2.2 i (r.2.2.1.getD i default) = false) : isRuleF r = false := by
  have : ((List.range r.2.2.1.length).all fun i => okC r.2.2.1 r.2.2.2 i (r.2.2.1.getD i default)) = false := by
    rw [List.all_eq_false]
    exact ⟨i, List.mem_range.2 hi, by rw [h]; simp⟩
  rw [isRuleF, this, Bool.and_false, Bool.false_and, Bool.false_and]
theorem getD_mem {α : Type} [Inhabited α] {l : List α} {i : Nat} (hi : i < l.length) : l.getD i default ∈ l := by simp [List.getD, hi]
theorem rule_noA {r : VRule} {i : Nat} (hi : i < r.2.2.2.length) (h : okA (bvF r.2.2.1 r.2.2.1.length) (r.2.2.2.getD i default) = false) : isRuleF r = false := by
  have : r.2.2.2.all (okA (bvF r.2.2.1 r.2.2.1.length)) = false := by
    rw [List.all_eq_false]
    exact ⟨_, getD_mem hi, by rw [h]; simp⟩
  simp [isRuleF, this]
theorem rule_yes {r : VRule} (h : nameF r.1 = true ∧ 0 ≤ r.2.1 ∧ r.2.1 ≤ 9 ∧ 1 ≤ r.2.2.1.length ∧ r.2.2.1.length ≤ 4 ∧ 1 ≤ r.2.2.2.length ∧ r.2.2.2.length ≤ 2)
    (hc : ∀ i, i < r.2.2.1.length → okC r.2.2.1 r.2.2.2 i (r.2.2.1.getD i default) = true) (ha : ∀ i, i < r.2.2.2.length → okA (bvF r.2.2.1 r.2.2.1.length) (r.2.2.2.getD i default) = true) :
    isRuleF r = decide ((rvF r.2.2.1 r.2.2.2).length ≤ 6) := by
  have h1 : ((List.range r.2.2.1.length).all fun i => okC r.2.2.1 r.2.2.2 i (r.2.2.1.getD i default)) = true := List.all_eq_true.2 fun i hi => hc i (List.mem_range.1 hi)
  have h2 : r.2.2.2.all (okA (bvF r.2.2.1 r.2.2.1.length)) = true := List.all_eq_true.2 fun a ha' => by
    obtain ⟨i, hi⟩ := List.getElem?_of_mem ha'
    have hl := getElem?_lt hi
    have := ha i hl
    have e : r.2.2.2.getD i default = a := by simp [List.getD, hi]
    rwa [e] at this
  obtain ⟨a1, a2, a3, a4, a5, a6, a7⟩ := h
  rw [rv_cvs h2]
  simp only [isRuleF, a1, a2, a3, a4, a5, a6, a7, h1, h2, decide_true, Bool.and_self, Bool.true_and]
end Go.Proofs.YtoindmahilbalaaGreat
namespace Go.Proofs.YtoindmahilbalaaGreat
open Abs
abbrev tokT (ts : List VToken) : Tr := .l 90 2 (ts.map tToken.q)
abbrev TA := AccO tToken 90 0
theorem tok_own {F : Fr} {kf kb : Nat} {fs : List Fct} {m : List VPair} {ys : List (List AV)} {us : List Nat} (h : AccO tFct 86 kf F fs ys us) (hb : F[kb]? = some (141, 2, m.length)) (hne : kb ≠ kf) (hbu : kb ∉ us) :
    ∃ vs, OwnA F (tToken.q (fs, m)) [.list (some kf) ys, .list (some kb) (pairs m)] vs ∧ vs.Nodup ∧ ∀ j ∈ vs, j = kf ∨ j = kb ∨ j ∈ us := by
  have h1 : OwnA F [.l 141 2 (m.map tPair.q)] [.list (some kb) (pairs m)] [kb] := plain_ownA tPair (fun _ => rfl) (fun _ => rfl) F _ kb m hb .nil
  refine ⟨kf :: us ++ [kb], .l 86 2 (fs.map tFct.q) kf ys (by rw [h.hk, List.length_map]; rfl) (by rw [h.hl, List.length_map]) (fun e he => ?_) h.hs h.own h1, ?_, fun j hj => ?_⟩
  · obtain ⟨a, _, rfl⟩ := List.mem_map.1 he
    exact tFct.hq a
  · rw [List.cons_append, List.nodup_cons, List.nodup_append]
    refine ⟨fun hm => ?_, h.nd, by simp, fun a ha b hb' e => ?_⟩
    · rcases List.mem_append.1 hm with hm | hm
      · exact h.kn hm
      · exact hne (List.mem_singleton.1 hm).symm
    · rw [List.mem_singleton.1 hb'] at e; exact hbu (e ▸ ha)
  · rcases List.mem_append.1 hj with hj | hj
    · rcases List.mem_cons.1 hj with hj | hj
      · exact .inl hj
      · exact .inr (.inr hj)
    · exact .inr (.inl (List.mem_singleton.1 hj))
theorem tok_step {F : Fr} {acc : List VToken} {ys : List (List AV)} {ts : List Nat} (hA : TA F acc ys ts) (fs : List Fct) (f : Fct) (m : List VPair) {n n1 n2 c c' : Nat} (hn : n = F.length) (hn1 : n1 = n + 1 + (frs tFct fs).length) (hn2 : n2 = n1 + 1) (hc : c = fs.length + 1) (hc' : c' = acc.length + 1) :
    ∃ us, TA ((((F ++ [(141, 2, m.length)]) ++ tFcts.fr fs ++ tFct.fr f).set n1 (86, 2, c)).set 0 (90, 2, c')) (acc ++ [(fs ++ [f], m)]) (ys ++ [[.list (some n1) (tks tFct fs (n + 1) ++ [tFct.tk f n2]), .list (some n) (pairs m)]]) us := by
  subst hn hn1 hn2 hc
  obtain ⟨us1, h1, g1⟩ := AccO.ofTks tFct 86 fs (F ++ [(141, 2, m.length)])
  have hl1 : (F ++ [(141, 2, m.length)]).length = F.length + 1 := by simp
  rw [hl1] at h1 g1
  have hfr : tFcts.fr fs = frs tFct fs ++ [(86, tFct.sz, fs.length)] := rfl
  rw [hfr]
  generalize hF2 : (F ++ [(141, 2, m.length)]) ++ (frs tFct fs ++ [(86, tFct.sz, fs.length)]) = F2 at h1 ⊢
  have hl2 : F2.length = F.length + 1 + (frs tFct fs).length + 1 := by rw [← hF2]; simp; omega
  obtain ⟨us2, h2, n2, g2⟩ := tFct.tkOwn f (n := F.length + 1 + (frs tFct fs).length + 1) (F := F2 ++ tFct.fr f) (fun i x hi => by rw [List.getElem?_append_right (by omega), hl2, Nat.add_sub_cancel_left]; exact hi)
  have h3 := (h1.grow (tFct.fr f)).snoc (m := fs.length + 1) f _ us2 rfl h2 n2 (fun j hj => by
    have := g2 j hj
    exact ⟨by omega, fun hm => by have := (g1 j hm).2; omega⟩)
  have hbk : ((F2 ++ tFct.fr f).set (F.length + 1 + (frs tFct fs).length) (86, tFct.sz, fs.length + 1))[F.length]? = some (141, 2, m.length) := by
    rw [List.getElem?_set, if_neg (by omega), List.getElem?_append_left (by omega), ← hF2, List.getElem?_append_left (by simp), List.getElem?_append_right (Nat.le_refl _), Nat.sub_self]; rfl
  have hF3 : ∀ j, j < F.length → ((F2 ++ tFct.fr f).set (F.length + 1 + (frs tFct fs).length) (86, tFct.sz, fs.length + 1))[j]? = F[j]? := fun j hj => by
    rw [List.getElem?_set, if_neg (by omega), List.getElem?_append_left (by omega), ← hF2, List.getElem?_append_left (by simp; omega), List.getElem?_append_left hj]
  obtain ⟨vs, o1, o2, o3⟩ := tok_own h3 hbk (by omega) (fun hm => by
    rcases List.mem_append.1 hm with hm | hm
    · have := (g1 _ hm).1; omega
    · have := (g2 _ hm).1; omega)
  have hA' : TA ((F2 ++ tFct.fr f).set (F.length + 1 + (frs tFct fs).length) (86, tFct.sz, fs.length + 1)) acc ys ts :=
    ⟨by rw [hF3 0 hA.klt]; exact hA.hk, hA.hl, hA.hs, hA.own.mono fun j hj => hF3 j (hA.own.lt j hj), hA.nd, hA.kn⟩
  have h0 := hA.klt
  refine ⟨_, hA'.snoc _ _ vs hc' o1 o2 fun j hj => ?_⟩
  have hlow : ∀ j, j ∈ vs → F.length ≤ j := fun j hj => by
    rcases o3 j hj with h | h | h
    · omega
    · omega
    · rcases List.mem_append.1 h with h | h
      · have := (g1 _ h).1; omega
      · have := (g2 _ h).1; omega
  have := hlow j hj
  exact ⟨by omega, fun hm => by have := hA.own.lt j hm; omega⟩
theorem tok_head {F : Fr} {acc : List VToken} {ys : List (List AV)} {ts : List Nat} (hA : TA F acc ys ts) (fs : List Fct) (f : Fct) (m : List VPair) :
    (((F ++ [(141, 2, m.length)]) ++ tFcts.fr fs ++ tFct.fr f).set (F.length + 1 + (frs tFct fs).length) (86, 2, fs.length + 1))[0]? = some (90, 2, ys.length) := by
  have := hA.klt
  rw [List.getElem?_set, if_neg (by omega), List.getElem?_append_left (by simp; omega), List.getElem?_append_left (by simp), List.getElem?_append_left this, hA.hk, hA.hl]; rfl
theorem tok_copy {F : Fr} {acc : List VToken} {ys : List (List AV)} {ts : List Nat} (hA : TA F acc ys ts) (t : VToken) {n c' : Nat} (hn : n = F.length) (hc' : c' = acc.length + 1) :
    ∃ us, TA ((F ++ tToken.fr t).set 0 (90, 2, c')) (acc ++ [t]) (ys ++ [tToken.tk t n]) us := by
  subst hn
  obtain ⟨us2, h2, n2, g2⟩ := tToken.tkOwn t (n := F.length) (F := F ++ tToken.fr t) (fun i x hi => by rw [List.getElem?_append_right (by omega), Nat.add_sub_cancel_left]; exact hi)
  refine ⟨_, (hA.grow (tToken.fr t)).snoc t _ us2 hc' h2 n2 fun j hj => ?_⟩
  have := g2 j hj
  have h0 := hA.klt
  exact ⟨by omega, fun hm => by have := hA.own.lt j hm; omega⟩
theorem sCopyT.own (t : VToken) (h : tToken.size t ≤ 1048576) : sCopyT.Own [.agg (oldL (tToken.q t))] (.a (tToken.q t)) := by
  rw [tToken_size] at h
  refine Ty.ownA tToken ?_
  refine sCopyT.ir.of rfl ?_
  have hf := tFcts_canon.ret rfl rfl (sCopies.own t.1 (by omega))
  have hb := sCopyB.ret t.2 (by omega)
  repeat' first
    | (conv => whnf
       first | refine Need.mk rfl ?_ | refine Need.mk ⟨rfl, Nat.le_of_ble_eq_true rfl⟩ ?_ | refine nb_ ?_ | refine FinAgg.keep ?_ | refine Final.mk rfl rfl | refine ACall.mkFcts _ _ (hf) (by repeat' first | exact SeesL.nil | refine SeesL.cons ?_ ?_ | exact SeesB.of0 (Sees0.val _) | exact SeesB.of0 (Sees0.str _) | exact SeesB.of0 (Sees0.olds _ _) | exact SeesB.of0 (Sees0.old _) | exact SeesB.of0 (Sees0.oldagg _) | exact SeesB.of0 Sees0.nil | exact Sees0.val _ | exact Sees0.str _ | exact Sees0.olds _ _ | exact Sees0.old _ | exact Sees0.oldagg _ | exact Sees0.nil | exact SeesB.of0 (Sees0.any _) | assumption | exact sees_gv _ _ _ (by assumption) (by first | assumption | exact BoxIn.last _ _ | exact BoxIn.more (BoxIn.last _ _) _) | refine SeesB.agg ?_ | refine Sees0.agg ?_ | exact SeesB.of0 (Sees0.clo SeesL.nil SeesL.nil) | exact Sees0.clo SeesL.nil SeesL.nil | exact SeesB.of0 (Sees0.list rfl) | exact Sees0.list rfl) ?_ | refine ACall.mkLA _ _ _ _ (hb) ?_)
theorem sMatchFact.retB (p : VPattern) (f : Fct) (b : List VPair) (h1 : tPattern.size p ≤ 1048576) (h2 : tFct.size f ≤ 1048576) (h3 : tPairs.size b ≤ 1048576) :
    sMatchFact.Ret [.agg (oldL (tPattern.q p)), .agg (oldL (tFct.q f)), .list none (pairs b)] (.tup [.list (some 0) (pairs ((matM p f b).getD [])), .val (.bool (matM p f b).isSome)]) [(141, 2, ((matM p f b).getD []).length)] :=
  plain_retP (fun _ => rfl) (fun _ => rfl) tPair_canon (sMatchFact.own p f b h1 h2 h3)
def hasF (l : List Fct) (p : VPattern) (t : VToken) : List VToken := l.filterMap fun f => (matM p f t.2).map fun b => (t.1 ++ [f], b)
theorem hasF_yes {l : List Fct} {p : VPattern} {t : VToken} {k : Nat} (hk : k < l.length) {b : List VPair} (h : matM p (l.getD k default) t.2 = some b) : hasF (l.take (k + 1)) p t = hasF (l.take k) p t ++ [(t.1 ++ [l.getD k default], b)] := by
  rw [take_succ' default hk, hasF, List.filterMap_append]
  generalize l.getD k default = f at h ⊢
  simp [hasF, h]
theorem hasF_no {l : List Fct} {p : VPattern} {t : VToken} {k : Nat} (hk : k < l.length) (h : matM p (l.getD k default) t.2 = none) : hasF (l.take (k + 1)) p t = hasF (l.take k) p t := by
  rw [take_succ' default hk, hasF, List.filterMap_append]
  generalize l.getD k default = f at h ⊢
  simp [hasF, h]
theorem hasF_le (l : List Fct) (p : VPattern) (t : VToken) (k : Nat) : (hasF (l.take k) p t).length ≤ l.length :=
  Nat.le_trans (List.length_filterMap_le _ _) (by rw [List.length_take]; omega)
theorem nextF_has {l : List Fct} {x : VCond} (h : x.1 = 1) (t : VToken) : nextF l x t = hasF l x.2.1 t := by rw [nextF, if_pos h]; rfl
theorem tok_sz {l : List Fct} {n : Nat} {t : VToken} (hl : ∀ f ∈ l, isFactF f = true) (h : GoodT l n t) (hn : n ≤ 5) : tToken.size t ≤ 1048576 := by
  have := goodT_size hl h hn
  rw [tToken_size]; omega
theorem tget {ts : List VToken} {i : Nat} (hi : i < ts.length) : ts.getD i default ∈ ts := by
  rw [List.getD_eq_getElem?_getD, List.getElem?_eq_getElem hi]; exact List.getElem_mem hi
set_option maxHeartbeats 4000000 in
theorem sNext.own (ts : List VToken) (x : VCond) (l : List Fct) (hx : tCond.size x ≤ 1048576) (h : tFcts.size l ≤ 1048576) (hl : ∀ f ∈ l, isFactF f = true) (hl24 : l.length ≤ 24) (hts : ts.length ≤ 331776) (hg : ∀ t ∈ ts, GoodT l 4 t) :
    sNext.Own [.list none (rows tToken ts), .agg (oldL (tCond.q x)), .list none (facts l)] (tokT (stepF l ts x)) := by
  refine Abs.IrAt.ownP sNext.ir rfl ?_
  have hp := tCond_pat x
  rw [tFcts_size] at h
  repeat' first
    | (conv => whnf
       first | refine Need.mk rfl ?_)
  refine ALoop.mk (Nat × Fr × List (List AV)) (fun i => ⟨[(0, .list none (rows tToken ts)), (2, .list none (facts l)), (4, .bptr 0 0), (7, .list (some 0) i.2.2), (8, .val (.int .i64 i.1))], [.cells .var (oldL (tCond.q x))], i.2.1⟩)
    (fun i => i.1 ≤ ts.length ∧ ∃ us, TA i.2.1 (stepF l (ts.take i.1) x) i.2.2 us) (fun i => ts.length - i.1) ⟨(0, [(90, 2, 0)], []), ⟨Nat.zero_le _, [], AccO.nil rfl⟩, ?_⟩ (fun i hi => ?_)
  · repeat' first
      | exact trivial | refine wl_ ?_ ?_ ?_ ?_ | refine And.intro ?_ ?_ | with_reducible rfl | exact ble_ | refine fr1 ?_ | refine AV.int_congr ?_ | refine AV.list_congr ?_ | (apply rfl)
  obtain ⟨i, F, ys⟩ := i
  obtain ⟨hi, us, hA⟩ := hi
  simp only at hi hA ⊢
  have hrl : (rows tToken ts).length = ts.length := length_rows _ _
  have hfl : (facts l).length = l.length := length_rows _ _
  by_cases hi' : i < ts.length
  rotate_left
  · have e : i = ts.length := by omega
    subst e
    rw [List.take_length] at hA
    repeat' first
      | (conv => whnf
         first | refine Need.mk rfl ?_ | refine Fork.decN ?_)
    exact hA.final
  have hgt := hg _ (tget hi')
  have hsz := goodT_size hl hgt (by omega)
  have hAk := hA.hk
  have hAl := hA.hl
  have hle := stepF_le hl24 (x := x) ts i
  by_cases hk : x.1 = 1
  · repeat' first
      | contradiction
      | (conv => whnf
         first | refine Need.mk rfl ?_ | refine Fork.decY ?_ | refine Fork.bne (fun _ => ?_) (fun _ => ?_))
    refine ALoop.mk (Nat × Fr × List (List AV)) (fun k => ⟨[(0, .list none (rows tToken ts)), (2, .list none (facts l)), (4, .bptr 0 0), (7, .list (some 0) k.2.2), (8, .val (.int .i64 i)), (9, .val (.int .i64 k.1))], [.cells .var (oldL (tCond.q x))], k.2.1⟩)
      (fun k => k.1 ≤ l.length ∧ ∃ us, TA k.2.1 (stepF l (ts.take i) x ++ hasF (l.take k.1) x.2.1 (ts.getD i default)) k.2.2 us) (fun k => l.length - k.1) ⟨(0, F, ys), ⟨Nat.zero_le _, us, by simpa [hasF] using hA⟩, ?_⟩ (fun k hk2 => ?_)
    · repeat' first
        | exact trivial | refine wl_ ?_ ?_ ?_ ?_ | refine And.intro ?_ ?_ | with_reducible rfl | exact ble_ | refine AV.int_congr ?_ | refine AV.list_congr ?_ | (apply rfl)
    obtain ⟨k, G, zs⟩ := k
    obtain ⟨hk2, vs, hB⟩ := hk2
    simp only at hk2 hB ⊢
    have hBk := hB.hk
    have hBl := hB.hl
    have hle2 := hasF_le l x.2.1 (ts.getD i default) k
    rw [List.length_append] at hBk hBl
    by_cases hk' : k < l.length
    rotate_left
    · have e : k = l.length := by omega
      subst e
      rw [List.take_length, ← nextF_has hk, ← stepF_take hi'] at hB
      repeat' first
        | (conv => whnf
           first | refine Need.mk rfl ?_ | refine Fork.decN ?_ | refine Round.mk ?_)
      refine ⟨(i + 1, G, zs), ⟨by simp only; omega, vs, hB⟩, ?_, by simp only; omega⟩
      repeat' first
        | exact trivial | refine wl_ ?_ ?_ ?_ ?_ | refine And.intro ?_ ?_ | with_reducible rfl | exact ble_ | refine AV.int_congr ?_ | refine AV.list_congr ?_ | (apply rfl)
      rw [wrap64 (by omega) (by omega)]; rfl
    have hf1 : tFct.size (l.getD k default) ≤ 1048576 := by have := fct_le hk'; omega
    have hm := sMatchFact.retB x.2.1 (l.getD k default) (ts.getD i default).2 (by omega) hf1 (by omega)
    have hfs := tFcts_canon.ret rfl rfl (sCopies.own (ts.getD i default).1 (by omega))
    have hfc := sCopy.ret (l.getD k default) hf1
    cases hmm : matM x.2.1 (l.getD k default) (ts.getD i default).2 with
    | none =>
      rw [hmm] at hm
      repeat' first
        | contradiction
        | (conv => whnf
           first | refine Need.mk rfl ?_ | refine nb_ ?_ | refine Ix.mapN (fun _ => rfl) ?_ | refine Fork.decY ?_ | refine Fork.mk (fun _ => ?_) (fun _ => ?_) | refine Round.mk ?_ | refine ACall.mkTB tPair _ _ _ _ (hm) (by repeat' first | exact SeesL.nil | refine SeesL.cons ?_ ?_ | exact SeesB.of0 (Sees0.val _) | exact SeesB.of0 (Sees0.str _) | exact SeesB.of0 (Sees0.olds _ _) | exact SeesB.of0 (Sees0.old _) | exact SeesB.of0 (Sees0.oldagg _) | exact SeesB.of0 Sees0.nil | exact Sees0.val _ | exact Sees0.str _ | exact Sees0.olds _ _ | exact Sees0.old _ | exact Sees0.oldagg _ | exact Sees0.nil | exact SeesB.of0 (Sees0.any _) | assumption | exact sees_gv _ _ _ (by assumption) (by first | assumption | exact BoxIn.last _ _ | exact BoxIn.more (BoxIn.last _ _) _) | refine SeesB.agg ?_ | refine Sees0.agg ?_ | exact SeesB.of0 (Sees0.clo SeesL.nil SeesL.nil) | exact Sees0.clo SeesL.nil SeesL.nil | exact SeesB.of0 (Sees0.list rfl) | exact Sees0.list rfl) ?_)
      refine ⟨(k + 1, G ++ [(141, 2, 0)], zs), ⟨by simp only; omega, vs, by rw [hasF_no hk' hmm]; exact hB.grow _⟩, ?_, by simp only; omega⟩
      repeat' first
        | exact trivial | refine wl_ ?_ ?_ ?_ ?_ | refine And.intro ?_ ?_ | with_reducible rfl | exact ble_ | refine AV.int_congr ?_ | refine AV.list_congr ?_ | (apply rfl)
      rw [wrap64 (by omega) (by omega)]; rfl
    | some b =>
      rw [hmm] at hm
      obtain ⟨us', hS⟩ := tok_step hB (ts.getD i default).1 (l.getD k default) b (c' := (stepF l (ts.take i) x).length + (hasF (l.take k) x.2.1 (ts.getD i default)).length + 1) rfl rfl rfl rfl (by rw [List.length_append])
      rw [List.append_assoc (stepF l (ts.take i) x), ← hasF_yes hk' hmm] at hS
      repeat' first
        | contradiction
        | (conv => whnf
           first | refine Need.mk rfl ?_ | refine nb_ ?_ | refine Need.finN ?_ | refine Ix.mapN (fun _ => rfl) ?_ | refine Fork.decY ?_ | refine Fork.mk (fun _ => ?_) (fun _ => ?_) | refine Lit.read rfl ?_ | refine ACall.mkTB tPair _ _ _ _ (hm) (by repeat' first | exact SeesL.nil | refine SeesL.cons ?_ ?_ | exact SeesB.of0 (Sees0.val _) | exact SeesB.of0 (Sees0.str _) | exact SeesB.of0 (Sees0.olds _ _) | exact SeesB.of0 (Sees0.old _) | exact SeesB.of0 (Sees0.oldagg _) | exact SeesB.of0 Sees0.nil | exact Sees0.val _ | exact Sees0.str _ | exact Sees0.olds _ _ | exact Sees0.old _ | exact Sees0.oldagg _ | exact Sees0.nil | exact SeesB.of0 (Sees0.any _) | assumption | exact sees_gv _ _ _ (by assumption) (by first | assumption | exact BoxIn.last _ _ | exact BoxIn.more (BoxIn.last _ _) _) | refine SeesB.agg ?_ | refine Sees0.agg ?_ | exact SeesB.of0 (Sees0.clo SeesL.nil SeesL.nil) | exact Sees0.clo SeesL.nil SeesL.nil | exact SeesB.of0 (Sees0.list rfl) | exact Sees0.list rfl) ?_ | refine ACall.mkFcts _ _ (hfs) (by repeat' first | exact SeesL.nil | refine SeesL.cons ?_ ?_ | exact SeesB.of0 (Sees0.val _) | exact SeesB.of0 (Sees0.str _) | exact SeesB.of0 (Sees0.olds _ _) | exact SeesB.of0 (Sees0.old _) | exact SeesB.of0 (Sees0.oldagg _) | exact SeesB.of0 Sees0.nil | exact Sees0.val _ | exact Sees0.str _ | exact Sees0.olds _ _ | exact Sees0.old _ | exact Sees0.oldagg _ | exact Sees0.nil | exact SeesB.of0 (Sees0.any _) | assumption | exact sees_gv _ _ _ (by assumption) (by first | assumption | exact BoxIn.last _ _ | exact BoxIn.more (BoxIn.last _ _) _) | refine SeesB.agg ?_ | refine Sees0.agg ?_ | exact SeesB.of0 (Sees0.clo SeesL.nil SeesL.nil) | exact Sees0.clo SeesL.nil SeesL.nil | exact SeesB.of0 (Sees0.list rfl) | exact Sees0.list rfl) ?_ | refine ACall.mkFct _ _ (hfc) (by repeat' first | exact SeesL.nil | refine SeesL.cons ?_ ?_ | exact SeesB.of0 (Sees0.val _) | exact SeesB.of0 (Sees0.str _) | exact SeesB.of0 (Sees0.olds _ _) | exact SeesB.of0 (Sees0.old _) | exact SeesB.of0 (Sees0.oldagg _) | exact SeesB.of0 Sees0.nil | exact Sees0.val _ | exact Sees0.str _ | exact Sees0.olds _ _ | exact Sees0.old _ | exact Sees0.oldagg _ | exact Sees0.nil | exact SeesB.of0 (Sees0.any _) | assumption | exact sees_gv _ _ _ (by assumption) (by first | assumption | exact BoxIn.last _ _ | exact BoxIn.more (BoxIn.last _ _) _) | refine SeesB.agg ?_ | refine Sees0.agg ?_ | exact SeesB.of0 (Sees0.clo SeesL.nil SeesL.nil) | exact Sees0.clo SeesL.nil SeesL.nil | exact SeesB.of0 (Sees0.list rfl) | exact Sees0.list rfl) ?_)
      have hG1 : (G ++ [(141, 2, ((some b).getD []).length)]).length = G.length + 1 := by simp
      have hfsz : (ts.getD i default).1.length ≤ 4 := hgt.le
      obtain ⟨F3, hF3⟩ := head_cons (tok_head hB (ts.getD i default).1 (l.getD k default) b)
      rw [hF3] at hS
      refine appK_to (F' := (90, 2, zs.length) :: F3) ?_ ?_ ?_ ?_ ?_
      · rw [length_tks, List.append_assoc, List.getElem?_append_right (by omega), List.getElem?_append_left (by simp [Ty.list, tFcts]), Nat.add_sub_cancel_left]
        show (frs tFct (ts.getD i default).1 ++ [_])[_]? = _
        rw [List.getElem?_append_right (Nat.le_refl _), Nat.sub_self]; rfl
      · intro c hc; rw [List.mem_singleton.1 hc]; exact tFct.htk _ _
      · rw [List.length_singleton, length_tks]; omega
      · rw [← hF3, hG1, length_tks]; rfl
      rw [hG1]
      have hG2 : (G ++ [(141, 2, ((some b).getD []).length)] ++ tFcts.fr (ts.getD i default).1).length = G.length + 1 + (frs tFct (ts.getD i default).1).length + 1 := by
        rw [show tFcts.fr (ts.getD i default).1 = frs tFct (ts.getD i default).1 ++ [(86, tFct.sz, (ts.getD i default).1.length)] from rfl]; simp only [List.length_append, List.length_singleton]; omega
      rw [hG2]
      repeat' first
        | (conv => whnf
           first | refine Need.mk rfl ?_ | refine Need.mk ?_ ?_ | refine Round.mk ?_ | refine Lit.read rfl ?_)
      · intro c hc; rw [List.mem_singleton.1 hc]; rfl
      · simp only [List.length_singleton]; omega
      · refine ⟨(k + 1, _, _), ⟨by simp only; omega, us', hS⟩, ?_, by simp only; omega⟩
        repeat' first
          | exact trivial | refine wl_ ?_ ?_ ?_ ?_ | refine And.intro ?_ ?_ | with_reducible rfl | exact ble_ | refine AV.int_congr ?_ | refine AV.list_congr ?_ | (apply rfl)
        · rw [wrap64 (by omega) (by omega)]; rfl
        · rw [← hBl]; rfl
  · have hc := sHoldsCond.ret x (ts.getD i default).2 l hx (by omega) (by rw [tFcts_size]; exact h)
    have hco := tToken_canon.retA (sCopyT.own (ts.getD i default) (tok_sz hl hgt (by omega)))
    have hlen1 : ys.length + 1 ≤ 7962625 := by omega
    repeat' first
      | contradiction
      | (conv => whnf
         first | refine Need.mk rfl ?_ | refine nb_ ?_ | refine Ix.mapN (fun _ => rfl) ?_ | refine Fork.decY ?_ | refine Fork.bne (fun _ => ?_) (fun _ => ?_) | refine Fork.mk (fun _ => ?_) (fun _ => ?_) | refine Round.mk ?_ | refine Lit.read rfl ?_ | refine AQCall.mkA _ _ (fun hg => hc) rfl ?_ | refine ACall.mk_Token _ _ (hco) (by repeat' first | exact SeesL.nil | refine SeesL.cons ?_ ?_ | exact SeesB.of0 (Sees0.val _) | exact SeesB.of0 (Sees0.str _) | exact SeesB.of0 (Sees0.olds _ _) | exact SeesB.of0 (Sees0.old _) | exact SeesB.of0 (Sees0.oldagg _) | exact SeesB.of0 Sees0.nil | exact Sees0.val _ | exact Sees0.str _ | exact Sees0.olds _ _ | exact Sees0.old _ | exact Sees0.oldagg _ | exact Sees0.nil | exact SeesB.of0 (Sees0.any _) | assumption | exact sees_gv _ _ _ (by assumption) (by first | assumption | exact BoxIn.last _ _ | exact BoxIn.more (BoxIn.last _ _) _) | refine SeesB.agg ?_ | refine Sees0.agg ?_ | exact SeesB.of0 (Sees0.clo SeesL.nil SeesL.nil) | exact Sees0.clo SeesL.nil SeesL.nil | exact SeesB.of0 (Sees0.list rfl) | exact Sees0.list rfl) ?_)
    · have hh : holdsCF x (ts.getD i default).2 l = true := by assumption
      have hnx : nextF l x (ts.getD i default) = [ts.getD i default] := by rw [nextF, if_neg hk, hh, if_pos rfl]
      obtain ⟨us', hS⟩ := tok_copy hA (ts.getD i default) (n := F.length) (c' := ys.length + 1) rfl (by omega)
      rw [← hnx, ← stepF_take hi'] at hS
      refine aOps_append (o := none) rfl rfl ?_ ?_ ?_ ?_
      · rw [List.getElem?_append_left hA.klt, hA.hk, ← hAl]; rfl
      · intro c hc; rw [List.mem_singleton.1 hc]; exact tToken.htk _ _
      · rw [List.length_singleton]; omega
      · repeat' first
          | (conv => whnf
             first | refine Need.mk rfl ?_ | refine Round.mk ?_)
        refine ⟨(i + 1, _, _), ⟨by simp only; omega, us', hS⟩, ?_, by simp only; omega⟩
        repeat' first
          | exact trivial | refine wl_ ?_ ?_ ?_ ?_ | refine And.intro ?_ ?_ | with_reducible rfl | exact ble_ | refine AV.int_congr ?_ | refine AV.list_congr ?_ | (apply rfl)
        rw [wrap64 (by omega) (by omega)]; rfl
    · have hh : holdsCF x (ts.getD i default).2 l = false := by assumption
      have hnx : nextF l x (ts.getD i default) = [] := by rw [nextF, if_neg hk, hh, if_neg (by simp)]
      refine ⟨(i + 1, F, ys), ⟨by simp only; omega, us, by rw [stepF_take hi', hnx, List.append_nil]; exact hA⟩, ?_, by simp only; omega⟩
      repeat' first
        | exact trivial | refine wl_ ?_ ?_ ?_ ?_ | refine And.intro ?_ ?_ | with_reducible rfl | exact ble_ | refine AV.int_congr ?_ | refine AV.list_congr ?_ | (apply rfl)
      rw [wrap64 (by omega) (by omega)]; rfl
theorem GoodT.mono {l : List Fct} {m n : Nat} {t : VToken} (h : GoodT l m t) (hm : m ≤ n) : GoodT l n t := ⟨Nat.le_trans h.le hm, h.mem, h.bind⟩
theorem nil_acc : TA [(90, 2, 1)] [([], [])] [[.val (.slice none 0 0), .val (.slice none 0 0)]] [] where
  hk := rfl
  hl := rfl
  hs y hy := by rw [List.mem_singleton.1 hy]; rfl
  own := .nils _ _ (.nils _ _ .nil)
  nd := List.nodup_nil
  kn := by simp
set_option maxHeartbeats 4000000 in
theorem sTokens.own (cs : List VCond) (l : List Fct) (hc : tConds.size cs ≤ 1048576) (hc4 : cs.length ≤ 4) (h : tFcts.size l ≤ 1048576) (hl : ∀ f ∈ l, isFactF f = true) (hl24 : l.length ≤ 24) :
    sTokens.Own [.list none (rows tCond cs), .list none (facts l)] (tokT (toksF l cs)) := by
  refine Abs.IrAt.ownP sTokens.ir rfl ?_
  rw [tConds_sz] at hc
  repeat' first
    | (conv => whnf
       first | refine Need.mk rfl ?_)
  refine ALoop.mk (Nat × Fr × Nat × List (List AV)) (fun i => ⟨[(0, .list none (rows tCond cs)), (1, .list none (facts l)), (5, .list (some i.2.2.1) i.2.2.2), (6, .val (.int .i64 i.1))], [], i.2.1⟩)
    (fun i => i.1 ≤ cs.length ∧ ∃ us, AccO tToken 90 i.2.2.1 i.2.1 (toksF l (cs.take i.1)) i.2.2.2 us) (fun i => cs.length - i.1) ⟨(0, [(90, 2, 1)], 0, [[.val (.slice none 0 0), .val (.slice none 0 0)]]), ⟨Nat.zero_le _, [], by rw [List.take_zero, toksF_nil]; exact nil_acc⟩, ?_⟩ (fun i hi => ?_)
  · repeat' first
      | exact trivial | refine wl_ ?_ ?_ ?_ ?_ | refine And.intro ?_ ?_ | with_reducible rfl | exact ble_ | refine fr1 ?_ | refine AV.int_congr ?_ | refine AV.list_congr ?_ | (apply rfl)
  obtain ⟨i, F, kk, ys⟩ := i
  obtain ⟨hi, us, hA⟩ := hi
  simp only at hi hA ⊢
  have hrl : (rows tCond cs).length = cs.length := length_rows _ _
  by_cases hi' : i < cs.length
  rotate_left
  · have e : i = cs.length := by omega
    subst e
    rw [List.take_length] at hA
    repeat' first
      | (conv => whnf
         first | refine Need.mk rfl ?_ | refine Fork.decN ?_)
    exact hA.final
  have hx := tCond_le hi'
  have hn := tTokens_canon.ret rfl rfl (sNext.own (toksF l (cs.take i)) (cs.getD i default) l (by omega) h hl hl24 (toksF_len4 hl24 hc4 i) (fun t ht => (toksF_good l cs i hi t ht).mono (by omega)))
  repeat' first
    | (conv => whnf
       first | refine Need.mk rfl ?_ | refine nb_ ?_ | refine Ix.mapN (fun _ => rfl) ?_ | refine Fork.decY ?_)
  conv => whnf
  rw [Int.toNat_natCast]
  refine ACall.mk_TokenS _ _ hn (SeesL.cons hA.sees (SeesL.cons ?_ (SeesL.cons ?_ SeesL.nil))) ?_
  · exact @Sees0.oldagg (tCond.q (cs.getD i default))
  · exact @Sees0.olds _ _
  repeat' first
    | (conv => whnf
       first | refine Need.mk rfl ?_ | refine Round.mk ?_)
  obtain ⟨us', hB, _⟩ := AccO.ofTks tToken 90 (stepF l (toksF l (cs.take i)) (cs.getD i default)) F
  rw [← toksF_succ l hi'] at hB
  refine ⟨(i + 1, _, _, _), ⟨by simp only; omega, us', hB⟩, ?_, by simp only; omega⟩
  rw [toksF_succ l hi']
  repeat' first
    | exact trivial | refine wl_ ?_ ?_ ?_ ?_ | refine And.intro ?_ ?_ | with_reducible rfl | exact ble_ | refine AV.int_congr ?_ | refine AV.list_congr ?_ | (apply rfl)
  rw [wrap64 (by omega) (by omega)]; rfl
end Go.Proofs.YtoindmahilbalaaGreat
namespace Go.Proofs.YtoindmahilbalaaGreat
open Abs Go.RowKit
theorem fget {l : List Fct} {i : Nat} (hi : i < l.length) : l[i]? = some (l.getD i default) := by simp [List.getD, hi]
def zf : List AV := [.str [], .val (.slice none 0 0)]
theorem tks_mem {α : Type} (T : Ty α) {c : AV} : ∀ {l : List α} {n : Nat}, c ∈ (tks T l n).flatten → ∃ a m, c ∈ T.tk a m
  | [], _, h => by cases h
  | a :: l, n, h => by
    rw [tks, List.flatten_cons, List.mem_append] at h
    rcases h with h | h
    · exact ⟨a, n, h⟩
    · exact tks_mem T h
theorem part_inF (m : Nat) (l : List Fct) (i : Nat) : inB.inBL m (part zf (tks tFct l 0) i) := by
  refine inBL_of fun c hc => ?_
  rw [part, List.mem_append] at hc
  rcases hc with h | h
  · obtain ⟨x, hx, hc⟩ := List.mem_flatten.1 h
    obtain ⟨a, n, ha⟩ := tks_mem tFct (List.mem_flatten.2 ⟨x, List.mem_of_mem_take hx, hc⟩)
    have ha : c ∈ [AV.str a.1, .list (some n) (strs a.2)] := ha
    rcases List.mem_cons.1 ha with rfl | ha
    · trivial
    · rw [List.mem_singleton.1 ha]; trivial
  · obtain ⟨x, hx, hc⟩ := List.mem_flatten.1 h
    rw [List.eq_of_mem_replicate hx] at hc
    rcases List.mem_cons.1 hc with rfl | hc
    · trivial
    · rw [List.mem_singleton.1 hc]; trivial
theorem pcopyFacts.ret (l : List Fct) (h : tFcts.size l ≤ 1048576) : pcopyFacts.Ret [.list none (facts l)] (.list (some (frs tFct l).length) (tks tFct l 0)) (frs tFct l ++ [(86, 2, l.length)]) := by
  refine pcopyFacts.ir.of rfl ?_
  rw [tFcts_size] at h
  have hfl : (facts l).length = l.length := length_rows _ _
  repeat' first
    | (conv => whnf
       first | refine Need.fin ?_)
  refine ALoop.mk Nat (fun i => ⟨[(3, .bsl 0 l.length), (9, .list none (facts l)), (10, .val (.int .i64 l.length)), (11, .val (.int .i64 i))], [.cells (.row 86 2) (part zf (tks tFct l 0) i)], frs tFct (l.take i)⟩) (fun i => i ≤ l.length) (fun i => l.length - i) ⟨0, Nat.zero_le _, ?_⟩ (fun i hi => ?_)
  · repeat' first
      | exact trivial | refine wl_ ?_ ?_ ?_ ?_ | refine And.intro ?_ ?_ | with_reducible rfl | exact ble_ | refine AV.int_congr ?_ | refine AV.list_congr ?_ | refine AV.bsl_congr ?_ ?_ | (apply rfl)
    · rw [hfl, Int.toNat_natCast]
    · rw [hfl]
    · simp only [List.nil_append, List.cons_append, List.length_cons, List.length_nil, List.take_succ_cons, List.take_zero]
      rw [part_made (xs := tks tFct l 0) (sz := 2) rfl (by decide) (by rw [length_tks, hfl, Int.toNat_natCast])]; rfl
  by_cases hi' : i < l.length
  rotate_left
  · have hil : i = l.length := by omega
    subst hil
    have hall := part_all zf (tks tFct l 0)
    rw [length_tks] at hall
    rw [List.take_length, hall]
    repeat' first
      | (conv => whnf
         first | refine Need.mk rfl ?_ | refine Fork.decN ?_)
    conv => whnf
    refine FreezeD.flat (Freeze.mk (tks tFct l 0) _ 86 2 rfl rfl (length_tks _ _ _) (tks_sz tFct l 0) (tks_nr tFct l 0) ?_)
    repeat' first
      | (conv => whnf
         first | refine Final.mk rfl rfl)
  have hsz := fct_le hi'
  have hget := tks_get tFct 0 (fget hi')
  rw [Nat.zero_add] at hget
  repeat' first
    | (conv => whnf
       first | refine Need.mk rfl ?_ | refine Need.mk ⟨rfl, Nat.le_of_ble_eq_true rfl⟩ ?_ | refine nb_ ?_ | refine Need.finN ?_ | refine Need.mk ?_ ?_ | refine Ix.mapN (fun _ => rfl) ?_ | refine Fork.decY ?_ | refine Round.mk ?_ | refine ACall.mkFct _ _ (pcopyFact.ret _ ?_) (by repeat' first | exact SeesL.nil | refine SeesL.cons ?_ ?_ | exact SeesB.of0 (Sees0.val _) | exact SeesB.of0 (Sees0.str _) | exact SeesB.of0 (Sees0.olds _ _) | exact SeesB.of0 (Sees0.old _) | exact SeesB.of0 (Sees0.oldagg _) | exact SeesB.of0 Sees0.nil | exact Sees0.val _ | exact Sees0.str _ | exact Sees0.olds _ _ | exact Sees0.old _ | exact Sees0.oldagg _ | exact Sees0.nil | exact SeesB.of0 (Sees0.any _) | assumption | exact sees_gv _ _ _ (by assumption) (by first | assumption | exact BoxIn.last _ _ | exact BoxIn.more (BoxIn.last _ _) _) | refine SeesB.agg ?_ | refine Sees0.agg ?_ | exact SeesB.of0 (Sees0.clo SeesL.nil SeesL.nil) | exact Sees0.clo SeesL.nil SeesL.nil | exact SeesB.of0 (Sees0.list rfl) | exact Sees0.list rfl) ?_)
  · rw [Int.toNat_natCast]; omega
  · rw [tFct.htk, part_len (sz := 2) rfl (tks_sz tFct l 0) (by rw [length_tks]; omega), length_tks, Int.toNat_natCast]
    exact ⟨rfl, by omega⟩
  · refine ⟨i + 1, by omega, ?_, by omega⟩
    refine ⟨?_, ?_, ?_, Nat.le_of_ble_eq_true rfl, Or.inr ⟨?_, part_inF 1 l (i + 1), trivial⟩⟩
    rotate_right
    · exact ⟨Nat.zero_lt_one, trivial, trivial, trivial, trivial⟩
    · repeat' first
        | exact trivial | refine And.intro ?_ ?_ | with_reducible rfl | refine AV.int_congr ?_ | refine AV.list_congr ?_ | refine AV.bsl_congr ?_ ?_
      rw [wrap64 (by omega) (by omega)]; rfl
    · have := part_set (z := zf) (sz := 2) rfl (tks_sz tFct l 0) hget
      exact congrArg (fun c => [ABox.cells (.row 86 2) c]) this
    · show frs tFct (l.take i) ++ tFct.fr (l.getD ((i : Int)).toNat default) = frs tFct (l.take (i + 1))
      rw [take_succ' default hi', frs_append, Int.toNat_natCast]
      simp [frs]
theorem pcopyFacts.own (l : List Fct) (h : tFcts.size l ≤ 1048576) : pcopyFacts.Own [.list none (facts l)] (fctsT l) := by
  have h1 := pcopyFacts.ret l h
  refine Ty.ownV tFcts (a := l) rfl rfl ?_
  rw [Nat.zero_add]; exact h1
end Go.Proofs.YtoindmahilbalaaGreat
