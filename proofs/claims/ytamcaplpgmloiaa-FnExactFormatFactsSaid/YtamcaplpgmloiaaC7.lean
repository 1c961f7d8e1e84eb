/-
  Texts joined.
-/
import Derived.Test.YtamcaplpgmloiaaC14
import Derived.Test.YtamcaplpgmloiaaJoin
namespace Go.Proofs.Ytamcaplpgmloiaa
open Abs Go.RowKit

def jn (sep : Str) : List Str → Str
  | [] => []
  | s :: l => s ++ l.flatMap (sep ++ ·)
theorem jn_succ {sep : Str} {l : List Str} {i : Nat} (h0 : 0 < i) (hi : i < l.length) : jn sep (l.take (i + 1)) = jn sep (l.take i) ++ sep ++ l.getD i [] := by
  rw [take_succ' [] hi]
  match l, i, h0 with
  | s :: l, i + 1, _ => simp [jn]
theorem jn_one {sep : Str} {l : List Str} (h : 0 < l.length) : jn sep (l.take 1) = l.getD 0 [] := by
  match l, h with
  | s :: l, _ => simp [jn]
theorem jnT_len (sep : Str) (l : List Str) : (l.flatMap (sep ++ ·)).length = l.length * sep.length + listSize Ty.str l := by
  induction l with
  | nil => simp [listSize]
  | cons x l ih =>
    rw [List.flatMap_cons, List.length_append, ih, List.length_append, List.length_cons, Nat.add_mul]
    show sep.length + x.length + _ = _ + (x.length + _)
    omega
theorem jn_len (sep : Str) : ∀ l : List Str, (jn sep l).length ≤ l.length * sep.length + listSize Ty.str l
  | [] => Nat.zero_le _
  | s :: l => by
    rw [jn, List.length_append, jnT_len, List.length_cons, Nat.add_mul]
    show s.length + _ ≤ _ + (s.length + _)
    omega
theorem jn_mono (sep : Str) (l : List Str) (k : Nat) : (jn sep (l.take k)).length ≤ (jn sep l).length := by
  match l, k with
  | [], k => simp
  | s :: l, 0 => simp [jn]
  | s :: l, k + 1 =>
    rw [List.take_succ_cons, jn, jn, List.length_append, List.length_append, jnT_len, jnT_len]
    have h1 := listSize_take_le Ty.str l k
    have h2 : (l.take k).length * sep.length ≤ l.length * sep.length := Nat.mul_le_mul_right _ (by rw [List.length_take]; omega)
    omega
/-- the joined text stays below this -/
def jnB (l : List Str) (sep : Str) : Prop := (jn sep l).length ≤ 1099511627776 ∧ l.length ≤ 1048576
theorem sJoin.ret (l : List Str) (sep : Str) (hb : jnB l sep) : sJoin.Ret [.list none (strs l), .str sep] (.str (jn sep l)) [] := by
  refine sJoin.of rfl ?_
  obtain ⟨hb, hl⟩ := hb
  repeat' first
    | contradiction
    | (conv => whnf
       first
         | refine Need.mk (fun h => h) ?_
         | refine Need.mk rfl ?_
         | refine Need.mk ⟨rfl, Nat.le_of_ble_eq_true rfl⟩ ?_
         | refine Need.mk (Nat.le_of_ble_eq_true rfl) ?_
         | refine Need.mk (by intros; (try simp only [length_strs] at *); (try simp only [length_rows] at *); (try simp only [length_oldLL, List.length_map] at *); (try simp only [Bool.and_eq_true, decide_eq_true_eq] at *); omega) ?_
         | refine Need.mk ?_ ?_
         | refine Ix.strs rfl (by intros; (try simp only [length_strs] at *); (try simp only [length_rows] at *); (try simp only [length_oldLL, List.length_map] at *); (try simp only [Bool.and_eq_true, decide_eq_true_eq] at *); omega) ?_
         | refine Ix.strs rfl ?_ ?_
         | refine Cut.strs rfl ?_ ?_
         | refine Ix.map (fun _ => rfl) (by intros; (try simp only [length_strs] at *); (try simp only [length_rows] at *); (try simp only [length_oldLL, List.length_map] at *); (try simp only [Bool.and_eq_true, decide_eq_true_eq] at *); omega) ?_
         | refine Ix.map (fun _ => rfl) ?_ ?_
         | refine Cut.map (fun _ => rfl) ?_ ?_
         | refine Fork.yes (by assumption) ?_
         | refine Fork.no (by assumption) ?_
         | refine Fork.decYes (by omega) ?_
         | refine Fork.decNo (by omega) ?_
         | refine Fork.dec (fun _ => ?_) (fun _ => ?_)
         | refine Fork.bne (fun _ => ?_) (fun _ => ?_)
         | refine Fork.beq (fun _ => ?_) (fun _ => ?_)
         | refine Fork.seq (fun _ => ?_) (fun _ => ?_)
         | refine Fork.sne (fun _ => ?_) (fun _ => ?_)
         | refine Fork.neg (fun _ => ?_) (fun _ => ?_)
         | refine Fork.mk (fun _ => ?_) (fun _ => ?_)
         | refine Round.mk ?_
         | refine NilQ.mk (fun b hb => ?_)
         | refine forceK_of ?_
         | refine forceBx_of ?_
         | refine unG_old ?_
         | refine unG_gv ?_
         | refine FinVal.keep ?_
         | refine FinAgg.keep ?_
         | refine Final.mk rfl rfl
         | refine Final.mk ?_ rfl
         | refine Final.mk ?_ ?_
         | refine FinalT.mk ?_ ?_)
    | refine AV.bool_congr ?_
    | refine AV.int_congr ?_
    | refine AV.str_congr ?_
    | refine AV.list_congr ?_
    | with_reducible rfl
    | refine fr1 ?_
    | refine fr2 ?_ ?_
  refine ALoop.mk Nat (fun i => ⟨[(0, .list none (strs l)), (1, .str sep), (5, .str (jn sep (l.take i))), (6, .val (.int .i64 i))], [], []⟩) (fun i => i ≤ l.length) (fun i => l.length - i) ⟨0, Nat.zero_le _, ?_⟩ (fun i hi => ?_)
  · repeat' first
      | exact trivial
      | refine Weak.mk ?_ ?_ ?_ ?_ (Or.inl (Nat.le_of_ble_eq_true rfl))
      | refine Weak.mk ?_ ?_ ?_ ?_ (Or.inr ⟨(by repeat' first | exact trivial | exact Nat.le_of_ble_eq_true rfl | refine And.intro ?_ ?_), (by repeat' first | exact trivial | exact Nat.le_of_ble_eq_true rfl | refine And.intro ?_ ?_)⟩)
      | refine Weak.mk ?_ ?_ ?_ ?_ ?_
      | refine And.intro ?_ ?_
      | with_reducible rfl
      | exact Nat.le_of_ble_eq_true rfl
      | refine fr1 ?_
      | refine fr2 ?_ ?_
      | refine AV.int_congr ?_
      | refine AV.bool_congr ?_
      | refine AV.str_congr ?_
      | refine AV.list_congr ?_
      | refine AV.bsl_congr ?_ ?_
      | (apply rfl)
  have h5 := jn_mono sep l (i + 1)
  have h6 : 0 < i → i < l.length → (jn sep (l.take (i + 1))).length = (jn sep (l.take i)).length + sep.length + (l.getD i []).length := fun h0 h => by rw [jn_succ h0 h]; simp only [List.length_append]
  have h7 : 0 < l.length → (jn sep (l.take 1)).length = (l.getD 0 []).length := fun h => by rw [jn_one h]
  repeat' first
    | contradiction
    | (conv => whnf
       first
         | refine Need.mk (fun h => h) ?_
         | refine Need.mk rfl ?_
         | refine Need.mk ⟨rfl, Nat.le_of_ble_eq_true rfl⟩ ?_
         | refine Need.mk (Nat.le_of_ble_eq_true rfl) ?_
         | refine Need.mk (by intros; (try simp only [length_strs] at *); (try simp only [length_rows] at *); (try simp only [length_oldLL, List.length_map] at *); (try simp only [Bool.and_eq_true, decide_eq_true_eq] at *); omega) ?_
         | refine Need.mk ?_ ?_
         | refine Ix.strs rfl (by intros; (try simp only [length_strs] at *); (try simp only [length_rows] at *); (try simp only [length_oldLL, List.length_map] at *); (try simp only [Bool.and_eq_true, decide_eq_true_eq] at *); omega) ?_
         | refine Ix.strs rfl ?_ ?_
         | refine Cut.strs rfl ?_ ?_
         | refine Ix.map (fun _ => rfl) (by intros; (try simp only [length_strs] at *); (try simp only [length_rows] at *); (try simp only [length_oldLL, List.length_map] at *); (try simp only [Bool.and_eq_true, decide_eq_true_eq] at *); omega) ?_
         | refine Ix.map (fun _ => rfl) ?_ ?_
         | refine Cut.map (fun _ => rfl) ?_ ?_
         | refine Fork.yes (by assumption) ?_
         | refine Fork.no (by assumption) ?_
         | refine Fork.decYes (by omega) ?_
         | refine Fork.decNo (by omega) ?_
         | refine Fork.dec (fun _ => ?_) (fun _ => ?_)
         | refine Fork.bne (fun _ => ?_) (fun _ => ?_)
         | refine Fork.beq (fun _ => ?_) (fun _ => ?_)
         | refine Fork.seq (fun _ => ?_) (fun _ => ?_)
         | refine Fork.sne (fun _ => ?_) (fun _ => ?_)
         | refine Fork.neg (fun _ => ?_) (fun _ => ?_)
         | refine Fork.mk (fun _ => ?_) (fun _ => ?_)
         | refine Round.mk ?_
         | refine NilQ.mk (fun b hb => ?_)
         | refine forceK_of ?_
         | refine forceBx_of ?_
         | refine unG_old ?_
         | refine unG_gv ?_
         | refine FinVal.keep ?_
         | refine FinAgg.keep ?_
         | refine Final.mk rfl rfl
         | refine Final.mk ?_ rfl
         | refine Final.mk ?_ ?_
         | refine FinalT.mk ?_ ?_)
    | refine AV.bool_congr ?_
    | refine AV.int_congr ?_
    | refine AV.str_congr ?_
    | refine AV.list_congr ?_
    | with_reducible rfl
    | refine fr1 ?_
    | refine fr2 ?_ ?_
  all_goals try simp only [length_strs, Int.toNat_natCast] at *
  · rw [List.length_append]; have := h6 (by omega) (by omega); omega
  · rename_i h1 h2
    refine ⟨i + 1, by omega, ?_, by omega⟩
    repeat' first
      | exact trivial
      | refine Weak.mk ?_ ?_ ?_ ?_ (Or.inl (Nat.le_of_ble_eq_true rfl))
      | refine Weak.mk ?_ ?_ ?_ ?_ (Or.inr ⟨(by repeat' first | exact trivial | exact Nat.le_of_ble_eq_true rfl | refine And.intro ?_ ?_), (by repeat' first | exact trivial | exact Nat.le_of_ble_eq_true rfl | refine And.intro ?_ ?_)⟩)
      | refine Weak.mk ?_ ?_ ?_ ?_ ?_
      | refine And.intro ?_ ?_
      | with_reducible rfl
      | exact Nat.le_of_ble_eq_true rfl
      | refine fr1 ?_
      | refine fr2 ?_ ?_
      | refine AV.int_congr ?_
      | refine AV.bool_congr ?_
      | refine AV.str_congr ?_
      | refine AV.list_congr ?_
      | refine AV.bsl_congr ?_ ?_
      | (apply rfl)
    · rw [jn_succ (by omega) (by omega)]
    · rw [wrap64 (by omega) (by omega)]; rfl
  · have h8 : i = 0 := by omega
    subst h8
    have := h7 (by omega)
    have := jn_mono sep l 1
    rw [List.take_zero]; show 0 + _ ≤ _; omega
  · rename_i h1 h2
    have h3 : i = 0 := by omega
    subst h3
    refine ⟨1, by omega, ?_, by omega⟩
    repeat' first
      | exact trivial
      | refine Weak.mk ?_ ?_ ?_ ?_ (Or.inl (Nat.le_of_ble_eq_true rfl))
      | refine Weak.mk ?_ ?_ ?_ ?_ (Or.inr ⟨(by repeat' first | exact trivial | exact Nat.le_of_ble_eq_true rfl | refine And.intro ?_ ?_), (by repeat' first | exact trivial | exact Nat.le_of_ble_eq_true rfl | refine And.intro ?_ ?_)⟩)
      | refine Weak.mk ?_ ?_ ?_ ?_ ?_
      | refine And.intro ?_ ?_
      | with_reducible rfl
      | exact Nat.le_of_ble_eq_true rfl
      | refine fr1 ?_
      | refine fr2 ?_ ?_
      | refine AV.int_congr ?_
      | refine AV.bool_congr ?_
      | refine AV.str_congr ?_
      | refine AV.list_congr ?_
      | refine AV.bsl_congr ?_ ?_
      | (apply rfl)
    rw [jn_one (by omega)]
    rfl
  · rw [List.take_of_length_le (by omega)]
theorem lib_join (sep : Str) (l : List Str) : Lib.join l sep = jn sep l := by
  cases l with
  | nil => rfl
  | cons s l => rw [Lib.join_cons, jn, Lib.joinTail, List.flatMap_def]
theorem stringsJoin.ret (l : List Str) (sep : Str) (hb : jnB l sep) : Abs.Ret Try.prog 60 [.list none (strs l), .str sep] (.str (jn sep l)) [] := by
  obtain ⟨hb, hl⟩ := hb
  rw [Ret_eq]
  refine ⟨by kernel_rfl, fun w F vs hout hB => ?_⟩
  obtain ⟨v0, v1, rfl⟩ : ∃ v0 v1, vs = #[v0, v1] := by
    have := hB.1
    match vs, this with
    | ⟨[a, b]⟩, _ => exact ⟨a, b, rfl⟩
  obtain ⟨h0, h1, _⟩ := Both.cons.1 hB |>.imp_right Both.cons.1
  have e1 : v1 = mkS sep := by cases h1; rfl
  subst e1
  have done : ∀ {e : Ending} {w' : World}, (e = .returned (mkS (jn sep l)) ∧ Below w.heap.size w w') → ∃ (v : Value) (F' : Nat → Nat) (tok : List (Option Nat)) (box : List BId), e = .returned v ∧ Below w.heap.size w w' ∧ (∀ b, b < w.heap.size → F' b = F b) ∧
      (∀ b, w'.heap.size ≤ b → F' b = 0) ∧ tok.length = 0 ∧ (∀ (k b : Nat), tok[k]? = some (some b) → w.heap.size ≤ b ∧ b < w'.heap.size) ∧
      (∀ (k l b : Nat), tok[k]? = some (some b) → tok[l]? = some (some b) → k = l) ∧ Rep w.heap.size w' F' tok [] box (.str (jn sep l)) v := by
    rintro e w' ⟨rfl, hbw⟩
    exact ⟨_, F, [], [], rfl, hbw, fun _ _ => rfl, fun b h => hout b (Nat.le_trans hbw.size h), rfl, by simp, by simp, .str _⟩
  generalize hx : strs l = xs at h0
  cases h0 with
  | list _ _ ad cap sz b off vs' hcap ha hsz hF hc hr ho =>
    subst hx
    rw [length_strs] at hcap ⊢
    cases hl0 : l with
    | nil =>
      subst hl0
      refine (Try.strings_Join_none ad cap ⟨sep.toArray⟩ w).mono ?_
      rintro e w' ⟨rfl, rfl⟩
      exact done ⟨rfl, Below.refl _ _⟩
    | cons s0 l0 =>
      rw [← hl0]
      have hne : strs l ≠ [] := by rw [hl0]; simp [strs_eq]
      rw [ha hne]
      have hget : ∀ (j : Nat) x, (l.map fun s => (⟨s.toArray⟩ : ByteArray))[j]? = some x → w.cell? ⟨b, off + j, none⟩ = some (.string x) := by
        intro j x hj
        rw [List.getElem?_map] at hj
        cases hlj : l[j]? with
        | none => rw [hlj] at hj; cases hj
        | some s =>
          rw [hlj] at hj
          cases hj
          have h1 : (strs l)[j]? = some [.str s] := by rw [strs_eq, List.getElem?_map, hlj]; rfl
          have hs1 : sz = 1 := by have := hsz _ (List.mem_of_getElem? h1); simpa using this.symm
          have h2 := (hc j _ 0 _ h1 rfl).1
          have h3 := hr j _ 0 _ h1 rfl
          rw [hs1, Nat.mul_one, Nat.add_zero] at h2
          rw [h2]
          generalize vs' j 0 = u at h3
          cases h3; rfl
      have hlt : b < w.heap.size := by
        have h1 := hget 0 ⟨s0.toArray⟩ (by rw [hl0]; rfl)
        rcases Nat.lt_or_ge b w.heap.size with h | h
        · exact h
        · unfold World.cell? at h1; rw [Array.getElem?_eq_none h] at h1; cases h1
      have hmap : (l.map fun s => (⟨s.toArray⟩ : ByteArray)).map (·.data.toList) = l := by rw [List.map_map]; exact (List.map_congr_left fun _ _ => rfl).trans (List.map_id l)
      have := Try.strings_Join b off cap (l.map fun s => ⟨s.toArray⟩) ⟨sep.toArray⟩ w hget hlt (by rw [List.length_map]; omega) (by rw [List.length_map]; exact hcap) (by
        rw [hmap]
        show (Lib.join l sep).length ≤ _
        rw [lib_join]; omega)
      rw [List.length_map, hmap] at this
      refine this.mono ?_
      rintro e w' ⟨rfl, hbw⟩
      refine done ⟨?_, hbw⟩
      show _ = Ending.returned (mkS (jn sep l))
      rw [← lib_join]; rfl
theorem pJoin.ret (l : List Str) (sep : Str) (hb : jnB l sep) : pJoin.Ret [.list none (strs l), .str sep] (.str (jn sep l)) [] := by
  refine pJoin.of rfl ?_
  repeat' first
    | contradiction
    | (conv => whnf
       first
         | refine Need.mk (fun h => h) ?_
         | refine Need.mk rfl ?_
         | refine Need.mk ⟨rfl, Nat.le_of_ble_eq_true rfl⟩ ?_
         | refine Need.mk (Nat.le_of_ble_eq_true rfl) ?_
         | refine Need.mk (by intros; (try simp only [length_strs] at *); (try simp only [length_rows] at *); (try simp only [length_oldLL, List.length_map] at *); (try simp only [Bool.and_eq_true, decide_eq_true_eq] at *); omega) ?_
         | refine Need.mk ?_ ?_
         | refine Ix.strs rfl (by intros; (try simp only [length_strs] at *); (try simp only [length_rows] at *); (try simp only [length_oldLL, List.length_map] at *); (try simp only [Bool.and_eq_true, decide_eq_true_eq] at *); omega) ?_
         | refine Ix.strs rfl ?_ ?_
         | refine Cut.strs rfl ?_ ?_
         | refine Ix.map (fun _ => rfl) (by intros; (try simp only [length_strs] at *); (try simp only [length_rows] at *); (try simp only [length_oldLL, List.length_map] at *); (try simp only [Bool.and_eq_true, decide_eq_true_eq] at *); omega) ?_
         | refine Ix.map (fun _ => rfl) ?_ ?_
         | refine Cut.map (fun _ => rfl) ?_ ?_
         | refine Fork.yes (by assumption) ?_
         | refine Fork.no (by assumption) ?_
         | refine Fork.decYes (by omega) ?_
         | refine Fork.decNo (by omega) ?_
         | refine Fork.dec (fun _ => ?_) (fun _ => ?_)
         | refine Fork.bne (fun _ => ?_) (fun _ => ?_)
         | refine Fork.beq (fun _ => ?_) (fun _ => ?_)
         | refine Fork.seq (fun _ => ?_) (fun _ => ?_)
         | refine Fork.sne (fun _ => ?_) (fun _ => ?_)
         | refine Fork.neg (fun _ => ?_) (fun _ => ?_)
         | refine Fork.mk (fun _ => ?_) (fun _ => ?_)
         | refine Round.mk ?_
         | refine NilQ.mk (fun b hb => ?_)
         | refine forceK_of ?_
         | refine forceBx_of ?_
         | refine unG_old ?_
         | refine unG_gv ?_
         | refine FinVal.keep ?_
         | refine FinAgg.keep ?_
         | refine Final.mk rfl rfl
         | refine Final.mk ?_ rfl
         | refine Final.mk ?_ ?_
         | refine FinalT.mk ?_ ?_
         | refine ACall.scal _ _ (stringsJoin.ret _ _ ?_) rfl (by repeat' first | exact SeesL.nil | refine SeesL.cons ?_ ?_ | exact SeesB.of0 (Sees0.val _) | exact SeesB.of0 (Sees0.str _) | exact SeesB.of0 (Sees0.olds _ _) | exact SeesB.of0 (Sees0.old _) | exact SeesB.of0 (Sees0.oldagg _) | exact SeesB.of0 Sees0.nil | exact Sees0.val _ | exact Sees0.str _ | exact Sees0.olds _ _ | exact Sees0.old _ | exact Sees0.oldagg _ | exact Sees0.nil | exact SeesB.of0 (Sees0.any _) | assumption | exact sees_gv _ _ _ (by assumption) (by first | assumption | exact BoxIn.last _ _ | exact BoxIn.more (BoxIn.last _ _) _) | refine SeesB.agg ?_ | refine Sees0.agg ?_ | exact SeesB.of0 (Sees0.clo SeesL.nil SeesL.nil) | exact Sees0.clo SeesL.nil SeesL.nil) ?_
         | refine AQCall.mk _ _ (fun hg => stringsJoin.ret _ _ ?_) rfl (fun _ => (by repeat' first | exact SeesL.nil | refine SeesL.cons ?_ ?_ | exact SeesB.of0 (Sees0.val _) | exact SeesB.of0 (Sees0.str _) | exact SeesB.of0 (Sees0.olds _ _) | exact SeesB.of0 (Sees0.old _) | exact SeesB.of0 (Sees0.oldagg _) | exact SeesB.of0 Sees0.nil | exact Sees0.val _ | exact Sees0.str _ | exact Sees0.olds _ _ | exact Sees0.old _ | exact Sees0.oldagg _ | exact Sees0.nil | exact SeesB.of0 (Sees0.any _) | assumption | exact sees_gv _ _ _ (by assumption) (by first | assumption | exact BoxIn.last _ _ | exact BoxIn.more (BoxIn.last _ _) _) | refine SeesB.agg ?_ | refine Sees0.agg ?_ | exact SeesB.of0 (Sees0.clo SeesL.nil SeesL.nil) | exact Sees0.clo SeesL.nil SeesL.nil)) ?_)
    | refine AV.bool_congr ?_
    | refine AV.int_congr ?_
    | refine AV.str_congr ?_
    | refine AV.list_congr ?_
    | with_reducible rfl
    | refine fr1 ?_
    | refine fr2 ?_ ?_
  exact hb
end Go.Proofs.Ytamcaplpgmloiaa
