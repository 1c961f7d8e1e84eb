/-
  What stands below some laws' proofs, part 2: contracts of functions, by an evaluator.
-/
import Derived.Test.YtfffboofmccfhaaGreatZA1
namespace Go.Proofs.YtfffboofmccfhaaGreat
open Abs
theorem l1In.ret (x a b : Int) : l1In.Ret [.val (.int .i64 x), .val (.int .i64 a), .val (.int .i64 b)] (.val (.bool (decide (a ≤ x) && decide (x ≤ b)))) [] := by
  refine l1In.of rfl ?_
  repeat' first
    | contradiction | exact trivial
    | (conv => whnf
       first | refine Need.mk (fun h => h) ?_ | refine Need.mk rfl ?_ | refine Need.mk ⟨rfl, Nat.le_of_ble_eq_true rfl⟩ ?_ | refine Need.mk (Nat.le_of_ble_eq_true rfl) ?_ | refine Need.fin ?_ | refine Need.mk ?_ ?_ | refine Ix.strsF rfl ?_ | refine Ix.strs rfl ?_ ?_ | refine Cut.strs rfl ?_ ?_ | refine Ix.mapF (fun _ => rfl) ?_ | refine Ix.map (fun _ => rfl) ?_ ?_ | refine Cut.map (fun _ => rfl) ?_ ?_ | refine Fork.yes (by assumption) ?_ | refine Fork.no (by assumption) ?_ | refine Fork.decYes (by omega) ?_ | refine Fork.decNo (by omega) ?_ | refine Fork.dec (fun _ => ?_) (fun _ => ?_) | refine Fork.bne (fun _ => ?_) (fun _ => ?_) | refine Fork.beq (fun _ => ?_) (fun _ => ?_) | refine Fork.seq (fun _ => ?_) (fun _ => ?_) | refine Fork.sne (fun _ => ?_) (fun _ => ?_) | refine Fork.neg (fun _ => ?_) (fun _ => ?_) | refine Fork.mk (fun _ => ?_) (fun _ => ?_) | refine HAlt.mk ?_ ?_ | apply HJoin.mk3 | exact HEnd.mk rfl rfl rfl | refine HEnd.mk ?_ ?_ ?_ | refine Round.mk ?_ | refine NilQ.mk (fun b hb => ?_) | refine forceK_of ?_ | refine forceBx_of ?_ | refine unG_old ?_ | refine unG_gv ?_ | refine Lit.read rfl ?_ | refine FinVal.keep ?_ | refine FinAgg.keep ?_ | refine Final.mk rfl rfl | refine Final.mk ?_ rfl | refine Final.mk ?_ ?_ | refine FinalT.mk ?_ ?_ | refine FinalC.allA ?_)
    | refine AV.bool_congr ?_ | refine AV.int_congr ?_ | refine AV.str_congr ?_ | refine AV.list_congr ?_ | with_reducible rfl | refine fr1 ?_ | refine fr2 ?_ ?_
def letter (c : Int) : Bool := decide (97 ≤ c) && decide (c ≤ 122)
def digit (c : Int) : Bool := decide (48 ≤ c) && decide (c ≤ 57)
theorem isLetter.ret (x : Int) : isLetter.Ret [.val (.int .i32 x)] (.val (.bool (letter x))) [] := by
  refine isLetter.of rfl ?_; unfold letter
  repeat' first
    | contradiction | exact trivial
    | (conv => whnf
       first | refine Need.mk (fun h => h) ?_ | refine Need.mk rfl ?_ | refine Need.mk ⟨rfl, Nat.le_of_ble_eq_true rfl⟩ ?_ | refine Need.mk (Nat.le_of_ble_eq_true rfl) ?_ | refine Need.fin ?_ | refine Need.mk ?_ ?_ | refine Ix.strsF rfl ?_ | refine Ix.strs rfl ?_ ?_ | refine Cut.strs rfl ?_ ?_ | refine Ix.mapF (fun _ => rfl) ?_ | refine Ix.map (fun _ => rfl) ?_ ?_ | refine Cut.map (fun _ => rfl) ?_ ?_ | refine Fork.yes (by assumption) ?_ | refine Fork.no (by assumption) ?_ | refine Fork.decYes (by omega) ?_ | refine Fork.decNo (by omega) ?_ | refine Fork.dec (fun _ => ?_) (fun _ => ?_) | refine Fork.bne (fun _ => ?_) (fun _ => ?_) | refine Fork.beq (fun _ => ?_) (fun _ => ?_) | refine Fork.seq (fun _ => ?_) (fun _ => ?_) | refine Fork.sne (fun _ => ?_) (fun _ => ?_) | refine Fork.neg (fun _ => ?_) (fun _ => ?_) | refine Fork.mk (fun _ => ?_) (fun _ => ?_) | refine HAlt.mk ?_ ?_ | apply HJoin.mk3 | exact HEnd.mk rfl rfl rfl | refine HEnd.mk ?_ ?_ ?_ | refine Round.mk ?_ | refine NilQ.mk (fun b hb => ?_) | refine forceK_of ?_ | refine forceBx_of ?_ | refine unG_old ?_ | refine unG_gv ?_ | refine Lit.read rfl ?_ | refine FinVal.keep ?_ | refine FinAgg.keep ?_ | refine Final.mk rfl rfl | refine Final.mk ?_ rfl | refine Final.mk ?_ ?_ | refine FinalT.mk ?_ ?_ | refine FinalC.allA ?_)
    | refine AV.bool_congr ?_ | refine AV.int_congr ?_ | refine AV.str_congr ?_ | refine AV.list_congr ?_ | with_reducible rfl | refine fr1 ?_ | refine fr2 ?_ ?_
theorem isDigit.ret (x : Int) : isDigit.Ret [.val (.int .i32 x)] (.val (.bool (digit x))) [] := by
  refine isDigit.of rfl ?_; unfold digit
  repeat' first
    | contradiction | exact trivial
    | (conv => whnf
       first | refine Need.mk (fun h => h) ?_ | refine Need.mk rfl ?_ | refine Need.mk ⟨rfl, Nat.le_of_ble_eq_true rfl⟩ ?_ | refine Need.mk (Nat.le_of_ble_eq_true rfl) ?_ | refine Need.fin ?_ | refine Need.mk ?_ ?_ | refine Ix.strsF rfl ?_ | refine Ix.strs rfl ?_ ?_ | refine Cut.strs rfl ?_ ?_ | refine Ix.mapF (fun _ => rfl) ?_ | refine Ix.map (fun _ => rfl) ?_ ?_ | refine Cut.map (fun _ => rfl) ?_ ?_ | refine Fork.yes (by assumption) ?_ | refine Fork.no (by assumption) ?_ | refine Fork.decYes (by omega) ?_ | refine Fork.decNo (by omega) ?_ | refine Fork.dec (fun _ => ?_) (fun _ => ?_) | refine Fork.bne (fun _ => ?_) (fun _ => ?_) | refine Fork.beq (fun _ => ?_) (fun _ => ?_) | refine Fork.seq (fun _ => ?_) (fun _ => ?_) | refine Fork.sne (fun _ => ?_) (fun _ => ?_) | refine Fork.neg (fun _ => ?_) (fun _ => ?_) | refine Fork.mk (fun _ => ?_) (fun _ => ?_) | refine HAlt.mk ?_ ?_ | apply HJoin.mk3 | exact HEnd.mk rfl rfl rfl | refine HEnd.mk ?_ ?_ ?_ | refine Round.mk ?_ | refine NilQ.mk (fun b hb => ?_) | refine forceK_of ?_ | refine forceBx_of ?_ | refine unG_old ?_ | refine unG_gv ?_ | refine Lit.read rfl ?_ | refine FinVal.keep ?_ | refine FinAgg.keep ?_ | refine Final.mk rfl rfl | refine Final.mk ?_ rfl | refine Final.mk ?_ ?_ | refine FinalT.mk ?_ ?_ | refine FinalC.allA ?_)
    | refine AV.bool_congr ?_ | refine AV.int_congr ?_ | refine AV.str_congr ?_ | refine AV.list_congr ?_ | with_reducible rfl | refine fr1 ?_ | refine fr2 ?_ ?_
def alnum (c : UInt8) : Bool := letter c.toNat || digit c.toNat
def atomF (s : Str) : Bool := s.all alnum && (decide (1 ≤ (s.length : Int)) && decide ((s.length : Int) ≤ 8))
theorem wrap64_byte (c : UInt8) : IntKind.i64.wrap (c.toNat : Int) = c.toNat := wrap64 (by omega) (by have := c.toNat_lt; omega)
theorem wrap32_byte (c : UInt8) : IntKind.i32.wrap (c.toNat : Int) = c.toNat := by have h := c.toNat_lt; exact Go.IntWalk.i32_in _ ⟨by omega, by omega⟩
theorem atomF_no {x : Str} {i : Nat} (hi : i < x.length) (h : alnum (x.getD i 0) = false) : atomF x = false := by
  have : x.all alnum = false := by
    rw [List.all_eq_false]
    refine ⟨x.getD i 0, ?_, by rw [h]; simp⟩
    simp [List.getD, hi]
  simp [atomF, this]
theorem all_succ {x : Str} {i : Nat} (hi : i < x.length) (h : (x.take i).all alnum = true) (hc : alnum (x.getD i 0) = true) : (x.take (i + 1)).all alnum = true := by
  rw [take_succ' 0 hi, List.all_append, h]; simpa using hc
theorem all_end {x : Str} {i : Nat} (hi : x.length ≤ i) (h : (x.take i).all alnum = true) : x.all alnum = true := by
  rwa [List.take_of_length_le hi] at h
theorem nor {p q : Bool} (h : (!p && !q) = true) : (p || q) = false := by cases p <;> cases q <;> simp_all
theorem nor' {p q : Bool} (h : (!p && !q) = false) : (p || q) = true := by cases p <;> cases q <;> simp_all
theorem dec_cases (x : Str) (i : Nat) (hi : i < x.length) :
    ((x.getD i 0).toNat < 128 ∧ decodeS x i = ((x.getD i 0).toNat, 1)) ∨ (128 ≤ (x.getD i 0).toNat ∧ 128 ≤ (decodeS x i).1) := by
  have hs : i < (⟨x.toArray⟩ : ByteArray).size := hi
  have he : (⟨x.toArray⟩ : ByteArray)[i]'hs = x.getD i 0 := by
    have : (⟨x.toArray⟩ : ByteArray)[i]'hs = x[i] := rfl
    rw [this]; simp [List.getD, hi]
  rcases Nat.lt_or_ge (x.getD i 0).toNat 128 with h | h
  · exact .inl ⟨h, by unfold decodeS; rw [decode_ascii _ _ hs (by rw [he]; exact h), he]⟩
  · exact .inr ⟨h, (decode_high _ _ hs (by rw [he]; exact h)).1⟩
theorem sIsAtom.ret (x : Str) (hx : x.length ≤ 1048576) : sIsAtom.Ret [.str x] (.val (.bool (atomF x))) [] := by
  refine sIsAtom.of rfl ?_
  repeat' first
    | contradiction | exact trivial
    | (conv => whnf
       first | refine Need.mk (fun h => h) ?_ | refine Need.mk rfl ?_ | refine Need.mk ⟨rfl, Nat.le_of_ble_eq_true rfl⟩ ?_ | refine Need.mk (Nat.le_of_ble_eq_true rfl) ?_ | refine Need.fin ?_ | refine Need.mk ?_ ?_ | refine Ix.strsF rfl ?_ | refine Ix.strs rfl ?_ ?_ | refine Cut.strs rfl ?_ ?_ | refine Ix.mapF (fun _ => rfl) ?_ | refine Ix.map (fun _ => rfl) ?_ ?_ | refine Cut.map (fun _ => rfl) ?_ ?_ | refine Fork.yes (by assumption) ?_ | refine Fork.no (by assumption) ?_ | refine Fork.decYes (by omega) ?_ | refine Fork.decNo (by omega) ?_ | refine Fork.dec (fun _ => ?_) (fun _ => ?_) | refine Fork.bne (fun _ => ?_) (fun _ => ?_) | refine Fork.beq (fun _ => ?_) (fun _ => ?_) | refine Fork.seq (fun _ => ?_) (fun _ => ?_) | refine Fork.sne (fun _ => ?_) (fun _ => ?_) | refine Fork.neg (fun _ => ?_) (fun _ => ?_) | refine Fork.mk (fun _ => ?_) (fun _ => ?_) | refine HAlt.mk ?_ ?_ | apply HJoin.mk3 | exact HEnd.mk rfl rfl rfl | refine HEnd.mk ?_ ?_ ?_ | refine Round.mk ?_ | refine NilQ.mk (fun b hb => ?_) | refine forceK_of ?_ | refine forceBx_of ?_ | refine unG_old ?_ | refine unG_gv ?_ | refine Lit.read rfl ?_ | refine FinVal.keep ?_ | refine FinAgg.keep ?_ | refine Final.mk rfl rfl | refine Final.mk ?_ rfl | refine Final.mk ?_ ?_ | refine FinalT.mk ?_ ?_ | refine FinalC.allA ?_)
    | refine AV.bool_congr ?_ | refine AV.int_congr ?_ | refine AV.str_congr ?_ | refine AV.list_congr ?_ | with_reducible rfl | refine fr1 ?_ | refine fr2 ?_ ?_
  refine ALoop.mk Nat (fun i => ⟨[(0, .str x), (3, .val (.int .i64 i))], [], []⟩) (fun i => i ≤ x.length ∧ (x.take i).all alnum = true) (fun i => x.length - i) ⟨0, ⟨Nat.zero_le _, rfl⟩, ?_⟩ (fun i hi => ?_)
  · repeat' first
      | exact trivial | refine Weak.mk ?_ ?_ ?_ ?_ (Or.inl (Nat.le_of_ble_eq_true rfl)) | refine Weak.mk ?_ ?_ ?_ ?_ (Or.inr ⟨(by repeat' first | exact trivial | exact Nat.le_of_ble_eq_true rfl | refine And.intro ?_ ?_), (by repeat' first | exact trivial | exact Nat.le_of_ble_eq_true rfl | refine And.intro ?_ ?_)⟩) | refine Weak.mk ?_ ?_ ?_ ?_ ?_ | refine And.intro ?_ ?_ | with_reducible rfl | exact Nat.le_of_ble_eq_true rfl | refine fr1 ?_ | refine fr2 ?_ ?_ | refine AV.int_congr ?_ | refine AV.bool_congr ?_ | refine AV.str_congr ?_ | refine AV.list_congr ?_ | refine AV.bsl_congr ?_ ?_ | (apply rfl)
  repeat' first
    | contradiction | exact trivial
    | (conv => whnf
       first | refine Need.mk (fun h => h) ?_ | refine Need.mk rfl ?_ | refine Need.mk ⟨rfl, Nat.le_of_ble_eq_true rfl⟩ ?_ | refine Need.mk (Nat.le_of_ble_eq_true rfl) ?_ | refine Need.fin ?_ | refine Need.mk ?_ ?_ | refine Ix.strsF rfl ?_ | refine Ix.strs rfl ?_ ?_ | refine Cut.strs rfl ?_ ?_ | refine Ix.mapF (fun _ => rfl) ?_ | refine Ix.map (fun _ => rfl) ?_ ?_ | refine Cut.map (fun _ => rfl) ?_ ?_ | refine Fork.yes (by assumption) ?_ | refine Fork.no (by assumption) ?_ | refine Fork.decYes (by omega) ?_ | refine Fork.decNo (by omega) ?_ | refine Fork.dec (fun _ => ?_) (fun _ => ?_) | refine Fork.bne (fun _ => ?_) (fun _ => ?_) | refine Fork.beq (fun _ => ?_) (fun _ => ?_) | refine Fork.seq (fun _ => ?_) (fun _ => ?_) | refine Fork.sne (fun _ => ?_) (fun _ => ?_) | refine Fork.neg (fun _ => ?_) (fun _ => ?_) | refine Fork.mk (fun _ => ?_) (fun _ => ?_) | refine HAlt.mk ?_ ?_ | apply HJoin.mk3 | exact HEnd.mk rfl rfl rfl | refine HEnd.mk ?_ ?_ ?_ | refine Round.mk ?_ | refine NilQ.mk (fun b hb => ?_) | refine forceK_of ?_ | refine forceBx_of ?_ | refine unG_old ?_ | refine unG_gv ?_ | refine Lit.read rfl ?_ | refine FinVal.keep ?_ | refine FinAgg.keep ?_ | refine Final.mk rfl rfl | refine Final.mk ?_ rfl | refine Final.mk ?_ ?_ | refine FinalT.mk ?_ ?_ | refine FinalC.allA ?_ | refine ACall.scalA _ _ (l1In.ret _ _ _) rfl ?_ | refine AQCall.mkA _ _ (fun hg => l1In.ret _ _ _) rfl ?_)
    | refine AV.bool_congr ?_ | refine AV.int_congr ?_ | refine AV.str_congr ?_ | refine AV.list_congr ?_ | with_reducible rfl | refine fr1 ?_ | refine fr2 ?_ ?_
  · rename_i h0 h1
    rw [atomF_no (i := i) (by omega) (by simp only [wrap64_byte, Int.toNat_natCast] at h1; exact nor h1)]
  · rename_i h0 h1
    refine ⟨i + 1, ⟨by omega, all_succ (by omega) hi.2 ?_⟩, ?_, by omega⟩
    · simp only [wrap64_byte, Int.toNat_natCast] at h1; exact nor' h1
    · repeat' first
        | exact trivial | refine Weak.mk ?_ ?_ ?_ ?_ (Or.inl (Nat.le_of_ble_eq_true rfl)) | refine Weak.mk ?_ ?_ ?_ ?_ (Or.inr ⟨(by repeat' first | exact trivial | exact Nat.le_of_ble_eq_true rfl | refine And.intro ?_ ?_), (by repeat' first | exact trivial | exact Nat.le_of_ble_eq_true rfl | refine And.intro ?_ ?_)⟩) | refine Weak.mk ?_ ?_ ?_ ?_ ?_ | refine And.intro ?_ ?_ | with_reducible rfl | exact Nat.le_of_ble_eq_true rfl | refine fr1 ?_ | refine fr2 ?_ ?_ | refine AV.int_congr ?_ | refine AV.bool_congr ?_ | refine AV.str_congr ?_ | refine AV.list_congr ?_ | refine AV.bsl_congr ?_ ?_ | (apply rfl)
      rw [wrap64 (by omega) (by omega)]; rfl
  · simp [atomF, all_end (by omega) hi.2]
theorem pIsAtom.ret (x : Str) (hx : x.length ≤ 1048576) : pIsAtom.Ret [.str x] (.val (.bool (atomF x))) [] := by
  refine pIsAtom.of rfl ?_
  repeat' first
    | contradiction | exact trivial
    | (conv => whnf
       first | refine Need.mk (fun h => h) ?_ | refine Need.mk rfl ?_ | refine Need.mk ⟨rfl, Nat.le_of_ble_eq_true rfl⟩ ?_ | refine Need.mk (Nat.le_of_ble_eq_true rfl) ?_ | refine Need.fin ?_ | refine Need.mk ?_ ?_ | refine Ix.strsF rfl ?_ | refine Ix.strs rfl ?_ ?_ | refine Cut.strs rfl ?_ ?_ | refine Ix.mapF (fun _ => rfl) ?_ | refine Ix.map (fun _ => rfl) ?_ ?_ | refine Cut.map (fun _ => rfl) ?_ ?_ | refine Fork.yes (by assumption) ?_ | refine Fork.no (by assumption) ?_ | refine Fork.decYes (by omega) ?_ | refine Fork.decNo (by omega) ?_ | refine Fork.dec (fun _ => ?_) (fun _ => ?_) | refine Fork.bne (fun _ => ?_) (fun _ => ?_) | refine Fork.beq (fun _ => ?_) (fun _ => ?_) | refine Fork.seq (fun _ => ?_) (fun _ => ?_) | refine Fork.sne (fun _ => ?_) (fun _ => ?_) | refine Fork.neg (fun _ => ?_) (fun _ => ?_) | refine Fork.mk (fun _ => ?_) (fun _ => ?_) | refine HAlt.mk ?_ ?_ | apply HJoin.mk3 | exact HEnd.mk rfl rfl rfl | refine HEnd.mk ?_ ?_ ?_ | refine Round.mk ?_ | refine NilQ.mk (fun b hb => ?_) | refine forceK_of ?_ | refine forceBx_of ?_ | refine unG_old ?_ | refine unG_gv ?_ | refine Lit.read rfl ?_ | refine FinVal.keep ?_ | refine FinAgg.keep ?_ | refine Final.mk rfl rfl | refine Final.mk ?_ rfl | refine Final.mk ?_ ?_ | refine FinalT.mk ?_ ?_ | refine FinalC.allA ?_)
    | refine AV.bool_congr ?_ | refine AV.int_congr ?_ | refine AV.str_congr ?_ | refine AV.list_congr ?_ | with_reducible rfl | refine fr1 ?_ | refine fr2 ?_ ?_
  all_goals try refine ALoop.mk Nat (fun i => ⟨[(0, .str x), (13, .bptr 0 0)], [.iter x i], []⟩) (fun i => i ≤ x.length ∧ (x.take i).all alnum = true) (fun i => x.length - i) ⟨0, ⟨Nat.zero_le _, rfl⟩, ?_⟩ (fun i hi => ?_)
  rotate_left
  · repeat' first
      | exact trivial | refine Weak.mk ?_ ?_ ?_ ?_ (Or.inl (Nat.le_of_ble_eq_true rfl)) | refine Weak.mk ?_ ?_ ?_ ?_ (Or.inr ⟨(by repeat' first | exact trivial | exact Nat.le_of_ble_eq_true rfl | refine And.intro ?_ ?_), (by repeat' first | exact trivial | exact Nat.le_of_ble_eq_true rfl | refine And.intro ?_ ?_)⟩) | refine Weak.mk ?_ ?_ ?_ ?_ ?_ | refine And.intro ?_ ?_ | with_reducible rfl | exact Nat.le_of_ble_eq_true rfl | refine fr1 ?_ | refine fr2 ?_ ?_ | refine AV.int_congr ?_ | refine AV.bool_congr ?_ | refine AV.str_congr ?_ | refine AV.list_congr ?_ | refine AV.bsl_congr ?_ ?_ | (apply rfl)
  repeat' first
    | contradiction | exact trivial
    | (conv => whnf
       first | refine Need.mk (fun h => h) ?_ | refine Need.mk rfl ?_ | refine Need.mk ⟨rfl, Nat.le_of_ble_eq_true rfl⟩ ?_ | refine Need.mk (Nat.le_of_ble_eq_true rfl) ?_ | refine Need.fin ?_ | refine Need.mk ?_ ?_ | refine Ix.strsF rfl ?_ | refine Ix.strs rfl ?_ ?_ | refine Cut.strs rfl ?_ ?_ | refine Ix.mapF (fun _ => rfl) ?_ | refine Ix.map (fun _ => rfl) ?_ ?_ | refine Cut.map (fun _ => rfl) ?_ ?_ | refine Fork.yes (by assumption) ?_ | refine Fork.no (by assumption) ?_ | refine Fork.decYes (by omega) ?_ | refine Fork.decNo (by omega) ?_ | refine Fork.dec (fun _ => ?_) (fun _ => ?_) | refine Fork.bne (fun _ => ?_) (fun _ => ?_) | refine Fork.beq (fun _ => ?_) (fun _ => ?_) | refine Fork.seq (fun _ => ?_) (fun _ => ?_) | refine Fork.sne (fun _ => ?_) (fun _ => ?_) | refine Fork.neg (fun _ => ?_) (fun _ => ?_) | refine Fork.mk (fun _ => ?_) (fun _ => ?_) | refine HAlt.mk ?_ ?_ | apply HJoin.mk3 | exact HEnd.mk rfl rfl rfl | refine HEnd.mk ?_ ?_ ?_ | refine Round.mk ?_ | refine NilQ.mk (fun b hb => ?_) | refine forceK_of ?_ | refine forceBx_of ?_ | refine unG_old ?_ | refine unG_gv ?_ | refine Lit.read rfl ?_ | refine FinVal.keep ?_ | refine FinAgg.keep ?_ | refine Final.mk rfl rfl | refine Final.mk ?_ rfl | refine Final.mk ?_ ?_ | refine FinalT.mk ?_ ?_ | refine FinalC.allA ?_ | refine ACall.scalA _ _ (isLetter.ret _) rfl ?_ | refine AQCall.mkA _ _ (fun hg => isLetter.ret _) rfl ?_ | refine ACall.scalA _ _ (isDigit.ret _) rfl ?_ | refine AQCall.mkA _ _ (fun hg => isDigit.ret _) rfl ?_)
    | refine AV.bool_congr ?_ | refine AV.int_congr ?_ | refine AV.str_congr ?_ | refine AV.list_congr ?_ | with_reducible rfl | refine fr1 ?_ | refine fr2 ?_ ?_
  · rename_i h0 _ h1
    refine (atomF_no h0 ?_).symm
    rcases dec_cases x i h0 with ⟨_, h⟩ | ⟨h, _⟩
    · rw [h] at h1; exact nor h1
    · rw [List.getD_eq_getElem?_getD] at h; simp [alnum, letter, digit]; omega
  · rename_i h0 _ h1
    rcases dec_cases x i h0 with ⟨_, h⟩ | ⟨_, h⟩
    · rw [h] at h1
      refine ⟨i + 1, ⟨h0, all_succ h0 hi.2 (nor' h1)⟩, ?_, by omega⟩
      repeat' first
        | exact trivial | refine Weak.mk ?_ ?_ ?_ ?_ (Or.inl (Nat.le_of_ble_eq_true rfl)) | refine Weak.mk ?_ ?_ ?_ ?_ (Or.inr ⟨(by repeat' first | exact trivial | exact Nat.le_of_ble_eq_true rfl | refine And.intro ?_ ?_), (by repeat' first | exact trivial | exact Nat.le_of_ble_eq_true rfl | refine And.intro ?_ ?_)⟩) | refine Weak.mk ?_ ?_ ?_ ?_ ?_ | refine And.intro ?_ ?_ | with_reducible rfl | exact Nat.le_of_ble_eq_true rfl | refine fr1 ?_ | refine fr2 ?_ ?_ | refine AV.int_congr ?_ | refine AV.bool_congr ?_ | refine AV.str_congr ?_ | refine AV.list_congr ?_ | refine AV.bsl_congr ?_ ?_ | (apply rfl)
      simp [h]
    · exfalso
      revert h1; simp [letter, digit]; omega
  · rename_i h1 h2 _
    simp only [Bool.or_eq_false_iff, decide_eq_false_iff_not] at h1
    have h3 : x ≠ [] := by simpa using h1.1
    have h4 : 0 < x.length := List.length_pos_iff.2 h3
    have h5 : (1 : Int) ≤ x.length := by omega
    have h6 : (x.length : Int) ≤ 8 := by omega
    simp [atomF, all_end (by omega) hi.2, h5, h6]
  · rename_i h1
    rcases Bool.or_eq_true_iff.1 h1 with h | h
    · have h3 : x = [] := by simpa using h
      subst h3; rfl
    · have : ¬ ((x.length : Int) ≤ 8) := by have := of_decide_eq_true h; omega
      simp [atomF, this]
end Go.Proofs.YtfffboofmccfhaaGreat
namespace Go.Proofs.YtfffboofmccfhaaGreat
open Abs
def fmt (n : Nat) : Str := if h : n < 10 then [UInt8.ofNat (48 + n)] else fmt (n / 10) ++ [UInt8.ofNat (48 + n % 10)]
termination_by n
decreasing_by omega
def dval (n : Nat) (c : UInt8) : Nat := 10 * n + (c.toNat - 48)
def valA (a : Nat) (s : Str) : Nat := s.foldl dval a
def dig (c : UInt8) : Bool := digit c.toNat
theorem dig_range {c : UInt8} (h : dig c = true) : 48 ≤ c.toNat ∧ c.toNat ≤ 57 := by
  simp [dig, digit] at h; omega
theorem fmt_small {n : Nat} (h : n < 10) : fmt n = [UInt8.ofNat (48 + n)] := by rw [fmt, dif_pos h]
theorem fmt_big {n : Nat} (h : 10 ≤ n) : fmt n = fmt (n / 10) ++ [UInt8.ofNat (48 + n % 10)] := by rw [fmt, dif_neg (by omega)]
theorem ofNat_dig {c : UInt8} (h : dig c = true) : UInt8.ofNat (48 + (c.toNat - 48)) = c := by
  have := dig_range h
  have e : 48 + (c.toNat - 48) = c.toNat := by omega
  rw [e]; exact UInt8.ofNat_toNat
theorem valA_lt {s : Str} (h : s.all dig = true) (a : Nat) : valA a s < (a + 1) * 10 ^ s.length := by
  induction s generalizing a with
  | nil => simp [valA]
  | cons c s ih =>
    simp only [List.all_cons, Bool.and_eq_true] at h
    have h1 := ih h.2 (dval a c)
    have h2 := dig_range h.1
    have h3 : (dval a c + 1) ≤ (a + 1) * 10 := by unfold dval; omega
    have h4 := Nat.mul_le_mul_right (10 ^ s.length) h3
    have h5 : (a + 1) * 10 * 10 ^ s.length = (a + 1) * 10 ^ (c :: s).length := by rw [List.length_cons, Nat.pow_succ, Nat.mul_assoc, Nat.mul_comm 10]
    show valA (dval a c) s < _
    omega
theorem valA_ge (s : Str) (a : Nat) : a * 10 ^ s.length ≤ valA a s := by
  induction s generalizing a with
  | nil => simp [valA]
  | cons c s ih =>
    have h1 := ih (dval a c)
    have h3 : a * 10 ≤ dval a c := by unfold dval; omega
    have h4 := Nat.mul_le_mul_right (10 ^ s.length) h3
    have h5 : a * 10 * 10 ^ s.length = a * 10 ^ (c :: s).length := by rw [List.length_cons, Nat.pow_succ, Nat.mul_assoc, Nat.mul_comm 10]
    show _ ≤ valA (dval a c) s
    omega
theorem fmt_valA {s : Str} (h : s.all dig = true) (a : Nat) (ha : 0 < a) : fmt (valA a s) = fmt a ++ s := by
  induction s generalizing a with
  | nil => simp [valA]
  | cons c s ih =>
    simp only [List.all_cons, Bool.and_eq_true] at h
    have h2 := dig_range h.1
    show fmt (valA (dval a c) s) = _
    rw [ih h.2 (dval a c) (by unfold dval; omega)]
    have h3 : dval a c / 10 = a := by unfold dval; omega
    have h4 : dval a c % 10 = c.toNat - 48 := by unfold dval; omega
    rw [fmt_big (n := dval a c) (by unfold dval; omega), h3, h4, ofNat_dig h.1]
    simp
theorem fmt_head (n : Nat) (h : 0 < n) : ∃ c r, fmt n = c :: r ∧ c ≠ 48 := by
  induction n using Nat.strongRecOn with
  | _ n ih =>
    rcases Nat.lt_or_ge n 10 with h1 | h1
    · refine ⟨_, [], fmt_small h1, fun e => ?_⟩
      have := congrArg UInt8.toNat e
      simp at this
      omega
    · obtain ⟨c, r, e, hc⟩ := ih (n / 10) (by omega) (by omega)
      exact ⟨c, r ++ [_], by rw [fmt_big h1, e]; rfl, hc⟩
/-- a text that is a number, as it is written -/
def isNum (s : Str) : Bool := match s with
  | [] => false
  | [c] => dig c
  | c :: d :: s => (c :: d :: s).all dig && c != 48
theorem fmt_of_isNum {s : Str} (h : isNum s = true) : fmt (valA 0 s) = s := by
  match s, h with
  | [c], h =>
    have h2 := dig_range h
    have e : valA 0 [c] = c.toNat - 48 := by simp [valA, dval]
    rw [e, fmt_small (by omega), ofNat_dig h]
  | c :: d :: s, h =>
    simp only [isNum, Bool.and_eq_true, bne_iff_ne, ne_eq] at h
    have hc : dig c = true := by have := h.1; simp only [List.all_cons, Bool.and_eq_true] at this; exact this.1
    have hs : (d :: s).all dig = true := by have := h.1; rw [List.all_cons, Bool.and_eq_true] at this; exact this.2
    have h2 := dig_range hc
    have h3 : c.toNat ≠ 48 := fun e => h.2 (by rw [← UInt8.ofNat_toNat (x := c), e]; rfl)
    show fmt (valA (dval 0 c) (d :: s)) = _
    have e : dval 0 c = c.toNat - 48 := by simp [dval]
    rw [e, fmt_valA hs _ (by omega), fmt_small (by omega), ofNat_dig hc]
    rfl
theorem isNum_of_fmt {s : Str} (hd : s.all dig = true) (h : fmt (valA 0 s) = s) : isNum s = true := by
  match s, hd, h with
  | [], _, h =>
    exfalso
    have : fmt (valA 0 []) = [48] := by simp [valA, fmt_small]
    rw [this] at h; cases h
  | [c], hd, _ => simpa [isNum] using hd
  | c :: d :: s, hd, h =>
    simp only [isNum, hd, Bool.true_and, bne_iff_ne, ne_eq]
    intro hc
    subst hc
    rcases Nat.eq_zero_or_pos (valA 0 (48 :: d :: s)) with h0 | h0
    · rw [h0] at h
      have : fmt 0 = [48] := by simp [fmt_small]
      rw [this] at h; cases h
    · obtain ⟨c, r, e, hc⟩ := fmt_head _ h0
      rw [h] at e; cases e; exact hc rfl
theorem isNum_digits {s : Str} (h : isNum s = true) : s.all dig = true := by
  match s, h with
  | [c], h => simpa [isNum] using h
  | c :: d :: s, h => simp only [isNum, Bool.and_eq_true] at h; exact h.1
theorem isNum_len {s : Str} (h : isNum s = true) (hv : valA 0 s ≤ 9999) : s.length ≤ 4 := by
  match s, h with
  | [c], _ => simp
  | c :: d :: s, h =>
    have hd := isNum_digits h
    simp only [isNum, Bool.and_eq_true, bne_iff_ne, ne_eq] at h
    have hc : dig c = true := by have := h.1; simp only [List.all_cons, Bool.and_eq_true] at this; exact this.1
    have h2 := dig_range hc
    have h3 : c.toNat ≠ 48 := fun e => h.2 (by rw [← UInt8.ofNat_toNat (x := c), e]; rfl)
    have h4 : valA (dval 0 c) (d :: s) ≤ 9999 := hv
    have h5 := valA_ge (d :: s) (dval 0 c)
    rcases Nat.lt_or_ge 4 (c :: d :: s).length with h6 | h6
    · exfalso
      have h7 : 10 ^ 4 ≤ 10 ^ (d :: s).length := Nat.pow_le_pow_right (by omega) (by simp at h6 ⊢; omega)
      have h8 : 1 ≤ dval 0 c := by unfold dval; omega
      have h9 := Nat.mul_le_mul h8 h7
      omega
    · exact h6
def numF (s : Str) : Bool := isNum s && decide (s.length ≤ 4)
def parseF (s : Str) : Int × Bool := if numF s then (valA 0 s, true) else (0, false)
theorem valA_lt4 {s : Str} (h : s.all dig = true) (hl : s.length ≤ 4) : valA 0 s ≤ 9999 := by
  have h1 := valA_lt h 0
  have h2 : 10 ^ s.length ≤ 10 ^ 4 := Nat.pow_le_pow_right (by omega) hl
  omega
theorem fmt_len4 {n : Nat} (h : n ≤ 9999) : (fmt n).length ≤ 4 := by
  rcases Nat.lt_or_ge n 10 with h1 | h1
  · rw [fmt_small h1]; simp
  rw [fmt_big h1]
  rcases Nat.lt_or_ge (n / 10) 10 with h2 | h2
  · rw [fmt_small h2]; simp
  rw [fmt_big h2]
  rcases Nat.lt_or_ge (n / 10 / 10) 10 with h3 | h3
  · rw [fmt_small h3]; simp
  rw [fmt_big h3]
  rw [fmt_small (n := n / 10 / 10 / 10) (by omega)]; simp
theorem valA_snoc (s : Str) (c : UInt8) : valA 0 (s ++ [c]) = 10 * valA 0 s + (c.toNat - 48) := by
  unfold valA; rw [List.foldl_append]; rfl
end Go.Proofs.YtfffboofmccfhaaGreat
namespace Go.Proofs.YtfffboofmccfhaaGreat
open Abs
theorem sFormatInt.ret (n : Nat) (h : n ≤ 9999) : sFormatInt.Ret [.val (.int .i64 n)] (.str (fmt n)) [] := by
  refine sFormatInt.ofS rfl rfl ?_
  repeat' first
    | contradiction | exact trivial
    | (conv => whnf
       first | refine Need.mk (fun h => h) ?_ | refine Need.mk rfl ?_ | refine Need.mk ⟨rfl, Nat.le_of_ble_eq_true rfl⟩ ?_ | refine Need.mk (Nat.le_of_ble_eq_true rfl) ?_ | refine Need.fin ?_ | refine Need.mk ?_ ?_ | refine Ix.strsF rfl ?_ | refine Ix.strs rfl ?_ ?_ | refine Cut.strs rfl ?_ ?_ | refine Ix.mapF (fun _ => rfl) ?_ | refine Ix.map (fun _ => rfl) ?_ ?_ | refine Cut.map (fun _ => rfl) ?_ ?_ | refine Fork.yes (by assumption) ?_ | refine Fork.no (by assumption) ?_ | refine Fork.decYes (by omega) ?_ | refine Fork.decNo (by omega) ?_ | refine Fork.dec (fun _ => ?_) (fun _ => ?_) | refine Fork.bne (fun _ => ?_) (fun _ => ?_) | refine Fork.beq (fun _ => ?_) (fun _ => ?_) | refine Fork.seq (fun _ => ?_) (fun _ => ?_) | refine Fork.sne (fun _ => ?_) (fun _ => ?_) | refine Fork.neg (fun _ => ?_) (fun _ => ?_) | refine Fork.mk (fun _ => ?_) (fun _ => ?_) | refine HAlt.mk ?_ ?_ | apply HJoin.mk3 | exact HEnd.mk rfl rfl rfl | refine HEnd.mk ?_ ?_ ?_ | refine Round.mk ?_ | refine NilQ.mk (fun b hb => ?_) | refine forceK_of ?_ | refine forceBx_of ?_ | refine unG_old ?_ | refine unG_gv ?_ | refine Lit.read rfl ?_ | refine FinVal.keep ?_ | refine FinAgg.keep ?_ | refine Final.mk rfl rfl | refine Final.mk ?_ rfl | refine Final.mk ?_ ?_ | refine FinalT.mk ?_ ?_ | refine FinalC.allA ?_)
    | refine AV.bool_congr ?_ | refine AV.int_congr ?_ | refine AV.str_congr ?_ | refine AV.list_congr ?_ | with_reducible rfl | refine fr1 ?_ | refine fr2 ?_ ?_
  refine ALoop.mk (Nat × Str × Fr) (fun a => ⟨[(0, .val (.int .i64 a.1)), (3, .str a.2.1)], [], a.2.2⟩) (fun a => fmt a.1 ++ a.2.1 = fmt n ∧ a.1 ≤ 9999) (fun a => a.1) ⟨(n, [], []), ⟨by simp, h⟩, ?_⟩ (fun a ha => ?_)
  · repeat' first
      | exact trivial | refine Weak.mk ?_ ?_ ?_ ?_ (Or.inl (Nat.le_of_ble_eq_true rfl)) | refine Weak.mk ?_ ?_ ?_ ?_ (Or.inr ⟨(by repeat' first | exact trivial | exact Nat.le_of_ble_eq_true rfl | refine And.intro ?_ ?_), (by repeat' first | exact trivial | exact Nat.le_of_ble_eq_true rfl | refine And.intro ?_ ?_)⟩) | refine Weak.mk ?_ ?_ ?_ ?_ ?_ | refine And.intro ?_ ?_ | with_reducible rfl | exact Nat.le_of_ble_eq_true rfl | refine fr1 ?_ | refine fr2 ?_ ?_ | refine AV.int_congr ?_ | refine AV.bool_congr ?_ | refine AV.str_congr ?_ | refine AV.list_congr ?_ | refine AV.bsl_congr ?_ ?_ | (apply rfl)
  repeat' first
    | contradiction | exact trivial
    | (conv => whnf
       first | refine Need.mk (fun h => h) ?_ | refine Need.mk rfl ?_ | refine Need.mk ⟨rfl, Nat.le_of_ble_eq_true rfl⟩ ?_ | refine Need.mk (Nat.le_of_ble_eq_true rfl) ?_ | refine Need.fin ?_ | refine Need.mk ?_ ?_ | refine Ix.strsF rfl ?_ | refine Ix.strs rfl ?_ ?_ | refine Cut.strs rfl ?_ ?_ | refine Ix.mapF (fun _ => rfl) ?_ | refine Ix.map (fun _ => rfl) ?_ ?_ | refine Cut.map (fun _ => rfl) ?_ ?_ | refine Fork.yes (by assumption) ?_ | refine Fork.no (by assumption) ?_ | refine Fork.decYes (by omega) ?_ | refine Fork.decNo (by omega) ?_ | refine Fork.dec (fun _ => ?_) (fun _ => ?_) | refine Fork.bne (fun _ => ?_) (fun _ => ?_) | refine Fork.beq (fun _ => ?_) (fun _ => ?_) | refine Fork.seq (fun _ => ?_) (fun _ => ?_) | refine Fork.sne (fun _ => ?_) (fun _ => ?_) | refine Fork.neg (fun _ => ?_) (fun _ => ?_) | refine Fork.mk (fun _ => ?_) (fun _ => ?_) | refine HAlt.mk ?_ ?_ | apply HJoin.mk3 | exact HEnd.mk rfl rfl rfl | refine HEnd.mk ?_ ?_ ?_ | refine Round.mk ?_ | refine NilQ.mk (fun b hb => ?_) | refine forceK_of ?_ | refine forceBx_of ?_ | refine unG_old ?_ | refine unG_gv ?_ | refine Lit.read rfl ?_ | refine FinVal.keep ?_ | refine FinAgg.keep ?_ | refine Final.mk rfl rfl | refine Final.mk ?_ rfl | refine Final.mk ?_ ?_ | refine FinalT.mk ?_ ?_ | refine FinalC.allA ?_)
    | refine AV.bool_congr ?_ | refine AV.int_congr ?_ | refine AV.str_congr ?_ | refine AV.list_congr ?_ | with_reducible rfl | refine fr1 ?_ | refine fr2 ?_ ?_
  conv => whnf
  have hd : (↑a.1 : Int).tmod 10 = (a.1 % 10 : Nat) := by rw [Int.tmod_eq_emod_of_nonneg (by omega)]; omega
  have hq : IntKind.i64.wrap ((↑a.1 : Int).tdiv 10) = (a.1 / 10 : Nat) := by rw [Int.tdiv_eq_ediv_of_nonneg (by omega), wrap64 (by omega) (by omega)]; omega
  have hl : a.2.1.length ≤ 4 := by
    have h1 := congrArg List.length ha.1
    have h2 := fmt_len4 h
    rw [List.length_append] at h1
    omega
  refine Bytes.mk [UInt8.ofNat (48 + a.1 % 10)] ?_ ?_
  · rw [hd, wrap64 (by omega) (by omega)]
    simp only [List.map_cons, List.map_nil, byteCell]
    rw [Go.IntWalk.u8_in _ ⟨by omega, by omega⟩]
    congr 4
    simp
    omega
  repeat' first
    | contradiction | exact trivial
    | (conv => whnf
       first | refine Need.mk (fun h => h) ?_ | refine Need.mk rfl ?_ | refine Need.mk ⟨rfl, Nat.le_of_ble_eq_true rfl⟩ ?_ | refine Need.mk (Nat.le_of_ble_eq_true rfl) ?_ | refine Need.fin ?_ | refine Need.mk ?_ ?_ | refine Ix.strsF rfl ?_ | refine Ix.strs rfl ?_ ?_ | refine Cut.strs rfl ?_ ?_ | refine Ix.mapF (fun _ => rfl) ?_ | refine Ix.map (fun _ => rfl) ?_ ?_ | refine Cut.map (fun _ => rfl) ?_ ?_ | refine Fork.yes (by assumption) ?_ | refine Fork.no (by assumption) ?_ | refine Fork.decYes (by omega) ?_ | refine Fork.decNo (by omega) ?_ | refine Fork.dec (fun _ => ?_) (fun _ => ?_) | refine Fork.bne (fun _ => ?_) (fun _ => ?_) | refine Fork.beq (fun _ => ?_) (fun _ => ?_) | refine Fork.seq (fun _ => ?_) (fun _ => ?_) | refine Fork.sne (fun _ => ?_) (fun _ => ?_) | refine Fork.neg (fun _ => ?_) (fun _ => ?_) | refine Fork.mk (fun _ => ?_) (fun _ => ?_) | refine HAlt.mk ?_ ?_ | apply HJoin.mk3 | exact HEnd.mk rfl rfl rfl | refine HEnd.mk ?_ ?_ ?_ | refine Round.mk ?_ | refine NilQ.mk (fun b hb => ?_) | refine forceK_of ?_ | refine forceBx_of ?_ | refine unG_old ?_ | refine unG_gv ?_ | refine Lit.read rfl ?_ | refine FinVal.keep ?_ | refine FinAgg.keep ?_ | refine Final.mk rfl rfl | refine Final.mk ?_ rfl | refine Final.mk ?_ ?_ | refine FinalT.mk ?_ ?_ | refine FinalC.allA ?_)
    | refine AV.bool_congr ?_ | refine AV.int_congr ?_ | refine AV.str_congr ?_ | refine AV.list_congr ?_ | with_reducible rfl | refine fr1 ?_ | refine fr2 ?_ ?_
  · simp only [List.length_cons, List.length_nil]; omega
  · rename_i h1
    rw [hq] at h1
    rw [← ha.1, fmt_small (by omega)]
    have : a.1 % 10 = a.1 := by omega
    rw [this]
  · rename_i h1
    rw [hq] at h1
    refine ⟨(a.1 / 10, [UInt8.ofNat (48 + a.1 % 10)] ++ a.2.1, a.2.2 ++ [(5, 1, 1)]), ⟨?_, by show a.1 / 10 ≤ 9999; omega⟩, ?_, by show a.1 / 10 < a.1; omega⟩
    · rw [← ha.1, fmt_big (n := a.1) (by omega), List.append_assoc]
    · repeat' first
        | exact trivial | refine Weak.mk ?_ ?_ ?_ ?_ (Or.inl (Nat.le_of_ble_eq_true rfl)) | refine Weak.mk ?_ ?_ ?_ ?_ (Or.inr ⟨(by repeat' first | exact trivial | exact Nat.le_of_ble_eq_true rfl | refine And.intro ?_ ?_), (by repeat' first | exact trivial | exact Nat.le_of_ble_eq_true rfl | refine And.intro ?_ ?_)⟩) | refine Weak.mk ?_ ?_ ?_ ?_ ?_ | refine And.intro ?_ ?_ | with_reducible rfl | exact Nat.le_of_ble_eq_true rfl | refine fr1 ?_ | refine fr2 ?_ ?_ | refine AV.int_congr ?_ | refine AV.bool_congr ?_ | refine AV.str_congr ?_ | refine AV.list_congr ?_ | refine AV.bsl_congr ?_ ?_ | (apply rfl)
      exact hq
theorem parseF_no {x : Str} (h : numF x = false) : parseF x = (0, false) := by
  unfold parseF; rw [if_neg (by simp [h])]
theorem parseF_yes {x : Str} (h : numF x = true) : parseF x = (↑(valA 0 x), true) := by
  unfold parseF; rw [if_pos h]
theorem digs_no {x : Str} {i : Nat} (hi : i < x.length) (h : dig (x.getD i 0) = false) : numF x = false := by
  cases hn : numF x with
  | false => rfl
  | true =>
    exfalso
    simp only [numF, Bool.and_eq_true] at hn
    have := List.all_eq_true.1 (isNum_digits hn.1) (x.getD i 0) (by simp [List.getD, hi])
    rw [h] at this; cases this
theorem digs_succ {x : Str} {i : Nat} (hi : i < x.length) (h : (x.take i).all dig = true) (hc : dig (x.getD i 0) = true) : (x.take (i + 1)).all dig = true := by
  rw [take_succ' 0 hi, List.all_append, h]; simpa using hc
theorem val_succ {x : Str} {i : Nat} (hi : i < x.length) : valA 0 (x.take (i + 1)) = 10 * valA 0 (x.take i) + ((x.getD i 0).toNat - 48) := by
  rw [take_succ' 0 hi, valA_snoc]
theorem wrap_val {v : Nat} {c : UInt8} (hv : v ≤ 9999) (hc : dig c = true) : IntKind.i64.wrap (IntKind.i64.wrap (10 * (v : Int)) + IntKind.i64.wrap (IntKind.u8.wrap ((c.toNat : Int) - 48))) = ((10 * v + (c.toNat - 48) : Nat) : Int) := by
  have h := dig_range hc
  rw [Go.IntWalk.u8_in _ ⟨by omega, by omega⟩, wrap64 (x := 10 * (v : Int)) (by omega) (by omega), wrap64 (x := (c.toNat : Int) - 48) (by omega) (by omega), wrap64 (by omega) (by omega)]
  omega
theorem valA_le4 {x : Str} {i : Nat} (h : (x.take i).all dig = true) (hx : x.length ≤ 4) : valA 0 (x.take i) ≤ 9999 :=
  valA_lt4 h (by rw [List.length_take]; omega)
theorem sParseInt.ret (x : Str) (hx : x.length ≤ 1048576) : sParseInt.Ret [.str x] (.tup [.val (.int .i64 (parseF x).1), .val (.bool (parseF x).2)]) [] := by
  refine sParseInt.ofS rfl rfl ?_
  repeat' first
    | contradiction | exact trivial
    | (conv => whnf
       first | refine Need.mk (fun h => h) ?_ | refine Need.mk rfl ?_ | refine Need.mk ⟨rfl, Nat.le_of_ble_eq_true rfl⟩ ?_ | refine Need.mk (Nat.le_of_ble_eq_true rfl) ?_ | refine Need.fin ?_ | refine Need.mk ?_ ?_ | refine Ix.strsF rfl ?_ | refine Ix.strs rfl ?_ ?_ | refine Cut.strs rfl ?_ ?_ | refine Ix.mapF (fun _ => rfl) ?_ | refine Ix.map (fun _ => rfl) ?_ ?_ | refine Cut.map (fun _ => rfl) ?_ ?_ | refine Fork.yes (by assumption) ?_ | refine Fork.no (by assumption) ?_ | refine Fork.decYes (by omega) ?_ | refine Fork.decNo (by omega) ?_ | refine Fork.dec (fun _ => ?_) (fun _ => ?_) | refine Fork.bne (fun _ => ?_) (fun _ => ?_) | refine Fork.beq (fun _ => ?_) (fun _ => ?_) | refine Fork.seq (fun _ => ?_) (fun _ => ?_) | refine Fork.sne (fun _ => ?_) (fun _ => ?_) | refine Fork.neg (fun _ => ?_) (fun _ => ?_) | refine Fork.mk (fun _ => ?_) (fun _ => ?_) | refine HAlt.mk ?_ ?_ | apply HJoin.mk3 | exact HEnd.mk rfl rfl rfl | refine HEnd.mk ?_ ?_ ?_ | refine Round.mk ?_ | refine NilQ.mk (fun b hb => ?_) | refine forceK_of ?_ | refine forceBx_of ?_ | refine unG_old ?_ | refine unG_gv ?_ | refine Lit.read rfl ?_ | refine FinVal.keep ?_ | refine FinAgg.keep ?_ | refine Final.mk rfl rfl | refine Final.mk ?_ rfl | refine Final.mk ?_ ?_ | refine FinalT.mk ?_ ?_ | refine FinalC.allA ?_ | refine ACall.scalA _ _ (l1In.ret _ _ _) rfl ?_ | refine AQCall.mkA _ _ (fun hg => l1In.ret _ _ _) rfl ?_)
    | refine AV.bool_congr ?_ | refine AV.int_congr ?_ | refine AV.str_congr ?_ | refine AV.list_congr ?_ | with_reducible rfl | refine fr1 ?_ | refine fr2 ?_ ?_
  · rename_i h
    have : numF x = false := by
      simp only [numF, Bool.and_eq_false_iff, decide_eq_false_iff_not] at h ⊢
      rcases h with h | h
      · left
        have : x.length = 0 := by omega
        rw [List.eq_nil_of_length_eq_zero this]; rfl
      · right; omega
    rw [parseF_no this]
  rename_i h
  simp only [Bool.and_eq_true, decide_eq_true_eq] at h
  have hl : x.length ≤ 4 := by omega
  clear h
  repeat' first
    | contradiction | exact trivial
    | (conv => whnf
       first | refine Need.mk (fun h => h) ?_ | refine Need.mk rfl ?_ | refine Need.mk ⟨rfl, Nat.le_of_ble_eq_true rfl⟩ ?_ | refine Need.mk (Nat.le_of_ble_eq_true rfl) ?_ | refine Need.fin ?_ | refine Need.mk ?_ ?_ | refine Ix.strsF rfl ?_ | refine Ix.strs rfl ?_ ?_ | refine Cut.strs rfl ?_ ?_ | refine Ix.mapF (fun _ => rfl) ?_ | refine Ix.map (fun _ => rfl) ?_ ?_ | refine Cut.map (fun _ => rfl) ?_ ?_ | refine Fork.yes (by assumption) ?_ | refine Fork.no (by assumption) ?_ | refine Fork.decYes (by omega) ?_ | refine Fork.decNo (by omega) ?_ | refine Fork.dec (fun _ => ?_) (fun _ => ?_) | refine Fork.bne (fun _ => ?_) (fun _ => ?_) | refine Fork.beq (fun _ => ?_) (fun _ => ?_) | refine Fork.seq (fun _ => ?_) (fun _ => ?_) | refine Fork.sne (fun _ => ?_) (fun _ => ?_) | refine Fork.neg (fun _ => ?_) (fun _ => ?_) | refine Fork.mk (fun _ => ?_) (fun _ => ?_) | refine HAlt.mk ?_ ?_ | apply HJoin.mk3 | exact HEnd.mk rfl rfl rfl | refine HEnd.mk ?_ ?_ ?_ | refine Round.mk ?_ | refine NilQ.mk (fun b hb => ?_) | refine forceK_of ?_ | refine forceBx_of ?_ | refine unG_old ?_ | refine unG_gv ?_ | refine Lit.read rfl ?_ | refine FinVal.keep ?_ | refine FinAgg.keep ?_ | refine Final.mk rfl rfl | refine Final.mk ?_ rfl | refine Final.mk ?_ ?_ | refine FinalT.mk ?_ ?_ | refine FinalC.allA ?_)
    | refine AV.bool_congr ?_ | refine AV.int_congr ?_ | refine AV.str_congr ?_ | refine AV.list_congr ?_ | with_reducible rfl | refine fr1 ?_ | refine fr2 ?_ ?_
  refine ALoop.mk Nat (fun i => ⟨[(0, .str x), (4, .val (.int .i64 (valA 0 (x.take i)))), (5, .val (.int .i64 i))], [], []⟩) (fun i => i ≤ x.length ∧ (x.take i).all dig = true) (fun i => x.length - i) ⟨0, ⟨Nat.zero_le _, rfl⟩, ?_⟩ (fun i hi => ?_)
  · repeat' first
      | exact trivial | refine Weak.mk ?_ ?_ ?_ ?_ (Or.inl (Nat.le_of_ble_eq_true rfl)) | refine Weak.mk ?_ ?_ ?_ ?_ (Or.inr ⟨(by repeat' first | exact trivial | exact Nat.le_of_ble_eq_true rfl | refine And.intro ?_ ?_), (by repeat' first | exact trivial | exact Nat.le_of_ble_eq_true rfl | refine And.intro ?_ ?_)⟩) | refine Weak.mk ?_ ?_ ?_ ?_ ?_ | refine And.intro ?_ ?_ | with_reducible rfl | exact Nat.le_of_ble_eq_true rfl | refine fr1 ?_ | refine fr2 ?_ ?_ | refine AV.int_congr ?_ | refine AV.bool_congr ?_ | refine AV.str_congr ?_ | refine AV.list_congr ?_ | refine AV.bsl_congr ?_ ?_ | (apply rfl)
  repeat' first
    | contradiction | exact trivial
    | (conv => whnf
       first | refine Need.mk (fun h => h) ?_ | refine Need.mk rfl ?_ | refine Need.mk ⟨rfl, Nat.le_of_ble_eq_true rfl⟩ ?_ | refine Need.mk (Nat.le_of_ble_eq_true rfl) ?_ | refine Need.fin ?_ | refine Need.mk ?_ ?_ | refine Ix.strsF rfl ?_ | refine Ix.strs rfl ?_ ?_ | refine Cut.strs rfl ?_ ?_ | refine Ix.mapF (fun _ => rfl) ?_ | refine Ix.map (fun _ => rfl) ?_ ?_ | refine Cut.map (fun _ => rfl) ?_ ?_ | refine Fork.yes (by assumption) ?_ | refine Fork.no (by assumption) ?_ | refine Fork.decYes (by omega) ?_ | refine Fork.decNo (by omega) ?_ | refine Fork.dec (fun _ => ?_) (fun _ => ?_) | refine Fork.bne (fun _ => ?_) (fun _ => ?_) | refine Fork.beq (fun _ => ?_) (fun _ => ?_) | refine Fork.seq (fun _ => ?_) (fun _ => ?_) | refine Fork.sne (fun _ => ?_) (fun _ => ?_) | refine Fork.neg (fun _ => ?_) (fun _ => ?_) | refine Fork.mk (fun _ => ?_) (fun _ => ?_) | refine HAlt.mk ?_ ?_ | apply HJoin.mk3 | exact HEnd.mk rfl rfl rfl | refine HEnd.mk ?_ ?_ ?_ | refine Round.mk ?_ | refine NilQ.mk (fun b hb => ?_) | refine forceK_of ?_ | refine forceBx_of ?_ | refine unG_old ?_ | refine unG_gv ?_ | refine Lit.read rfl ?_ | refine FinVal.keep ?_ | refine FinAgg.keep ?_ | refine Final.mk rfl rfl | refine Final.mk ?_ rfl | refine Final.mk ?_ ?_ | refine FinalT.mk ?_ ?_ | refine FinalC.allA ?_ | refine ACall.scalA _ _ (sFormatInt.ret _ ?_) rfl ?_ | refine AQCall.mkA _ _ (fun hg => sFormatInt.ret _ ?_) rfl ?_)
    | refine AV.bool_congr ?_ | refine AV.int_congr ?_ | refine AV.str_congr ?_ | refine AV.list_congr ?_ | with_reducible rfl | refine fr1 ?_ | refine fr2 ?_ ?_
  · rename_i h0 h
    have hn : numF x = false := digs_no (i := i) (by omega) (by
      simp only [Int.toNat_natCast] at h
      simp only [Bool.or_eq_true, decide_eq_true_eq] at h
      simp only [dig, digit, Bool.and_eq_false_iff, decide_eq_false_iff_not]; omega)
    rw [parseF_no hn]
  · rename_i h0 h
    have hc : dig (x.getD i 0) = true := by
      simp only [Int.toNat_natCast] at h
      simp only [Bool.or_eq_false_iff, decide_eq_false_iff_not] at h
      simp only [dig, digit, Bool.and_eq_true, decide_eq_true_eq]; omega
    have h1 := valA_le4 hi.2 hl
    have h2 := wrap_val h1 hc
    refine ⟨i + 1, ⟨by omega, digs_succ (by omega) hi.2 hc⟩, ?_, by omega⟩
    repeat' first
      | exact trivial | refine Weak.mk ?_ ?_ ?_ ?_ (Or.inl (Nat.le_of_ble_eq_true rfl)) | refine Weak.mk ?_ ?_ ?_ ?_ (Or.inr ⟨(by repeat' first | exact trivial | exact Nat.le_of_ble_eq_true rfl | refine And.intro ?_ ?_), (by repeat' first | exact trivial | exact Nat.le_of_ble_eq_true rfl | refine And.intro ?_ ?_)⟩) | refine Weak.mk ?_ ?_ ?_ ?_ ?_ | refine And.intro ?_ ?_ | with_reducible rfl | exact Nat.le_of_ble_eq_true rfl | refine fr1 ?_ | refine fr2 ?_ ?_ | refine AV.int_congr ?_ | refine AV.bool_congr ?_ | refine AV.str_congr ?_ | refine AV.list_congr ?_ | refine AV.bsl_congr ?_ ?_ | (apply rfl)
    · simp only [Int.toNat_natCast]
      rw [h2, val_succ (by omega)]
    · rw [wrap64 (by omega) (by omega)]; rfl
  · exact valA_le4 hi.2 hl
  · rename_i h0 h
    rw [List.take_of_length_le (by omega)] at h
    have hn : numF x = false := by
      cases hn : numF x with
      | false => rfl
      | true => simp only [numF, Bool.and_eq_true] at hn; exact absurd (fmt_of_isNum hn.1) h
    rw [parseF_no hn]
  · rename_i h0 h
    rw [List.take_of_length_le (by omega)] at h hi ⊢
    have hn : numF x = true := by simp [numF, isNum_of_fmt hi.2 h, hl]
    rw [parseF_yes hn]
theorem wrap_val32 {v : Nat} {c : UInt8} (hv : v ≤ 9999) (hc : dig c = true) : IntKind.i64.wrap (IntKind.i64.wrap (10 * (v : Int)) + IntKind.i64.wrap (IntKind.i32.wrap ((c.toNat : Int) - 48))) = ((10 * v + (c.toNat - 48) : Nat) : Int) := by
  have h := dig_range hc
  rw [Go.IntWalk.i32_in _ ⟨by omega, by omega⟩, wrap64 (x := 10 * (v : Int)) (by omega) (by omega), wrap64 (x := (c.toNat : Int) - 48) (by omega) (by omega), wrap64 (by omega) (by omega)]
  omega
/-- no needless nought in front -/
def plainHead (x : Str) : Bool := !(x == [] || (decide (1 < (x.length : Int)) && ((x.getD 0 0).toNat : Int) == 48))
theorem plainHead_no {x : Str} (h : plainHead x = false) : numF x = false := by
  match x, h with
  | [], _ => rfl
  | [c], h => simp [plainHead] at h
  | c :: d :: x, h =>
    have : c = 48 := by
      have h1 : c.toNat = 48 := by simp [plainHead] at h; omega
      rw [← UInt8.ofNat_toNat (x := c), h1]; rfl
    subst this
    simp [numF, isNum]
theorem isNum_of {x : Str} (h : plainHead x = true) (hd : x.all dig = true) : isNum x = true := by
  match x, h, hd with
  | [c], _, hd => simpa [isNum] using hd
  | c :: d :: x, h, hd =>
    simp only [isNum, hd, Bool.true_and, bne_iff_ne, ne_eq]
    rintro rfl
    simp [plainHead] at h; omega
theorem dec_digit {x : Str} {i : Nat} (hi : i < x.length) (h : digit (decodeS x i).1 = true) : dig (x.getD i 0) = true ∧ decodeS x i = ((x.getD i 0).toNat, 1) := by
  rcases dec_cases x i hi with ⟨_, e⟩ | ⟨_, e⟩
  · rw [e] at h; exact ⟨h, e⟩
  · simp [digit] at h; omega
theorem dec_digit_no {x : Str} {i : Nat} (hi : i < x.length) (h : digit (decodeS x i).1 = false) : dig (x.getD i 0) = false := by
  rcases dec_cases x i hi with ⟨_, e⟩ | ⟨e, _⟩
  · rw [e] at h; exact h
  · simp only [dig, digit, Bool.and_eq_false_iff, decide_eq_false_iff_not]; omega
theorem pParseInt.ret (x : Str) (hx : x.length ≤ 1048576) : pParseInt.Ret [.str x] (.tup [.val (.int .i64 (parseF x).1), .val (.bool (parseF x).2)]) [] := by
  refine pParseInt.ofS rfl rfl ?_
  repeat' first
    | contradiction | exact trivial
    | (conv => whnf
       first | refine Need.mk (fun h => h) ?_ | refine Need.mk rfl ?_ | refine Need.mk ⟨rfl, Nat.le_of_ble_eq_true rfl⟩ ?_ | refine Need.mk (Nat.le_of_ble_eq_true rfl) ?_ | refine Need.fin ?_ | refine Need.mk ?_ ?_ | refine Ix.strsF rfl ?_ | refine Ix.strs rfl ?_ ?_ | refine Cut.strs rfl ?_ ?_ | refine Ix.mapF (fun _ => rfl) ?_ | refine Ix.map (fun _ => rfl) ?_ ?_ | refine Cut.map (fun _ => rfl) ?_ ?_ | refine Fork.yes (by assumption) ?_ | refine Fork.no (by assumption) ?_ | refine Fork.decYes (by omega) ?_ | refine Fork.decNo (by omega) ?_ | refine Fork.dec (fun _ => ?_) (fun _ => ?_) | refine Fork.bne (fun _ => ?_) (fun _ => ?_) | refine Fork.beq (fun _ => ?_) (fun _ => ?_) | refine Fork.seq (fun _ => ?_) (fun _ => ?_) | refine Fork.sne (fun _ => ?_) (fun _ => ?_) | refine Fork.neg (fun _ => ?_) (fun _ => ?_) | refine Fork.mk (fun _ => ?_) (fun _ => ?_) | refine HAlt.mk ?_ ?_ | apply HJoin.mk3 | exact HEnd.mk rfl rfl rfl | refine HEnd.mk ?_ ?_ ?_ | refine Round.mk ?_ | refine NilQ.mk (fun b hb => ?_) | refine forceK_of ?_ | refine forceBx_of ?_ | refine unG_old ?_ | refine unG_gv ?_ | refine Lit.read rfl ?_ | refine FinVal.keep ?_ | refine FinAgg.keep ?_ | refine Final.mk rfl rfl | refine Final.mk ?_ rfl | refine Final.mk ?_ ?_ | refine FinalT.mk ?_ ?_ | refine FinalC.allA ?_ | refine ACall.scalA _ _ (isDigit.ret _) rfl ?_ | refine AQCall.mkA _ _ (fun hg => isDigit.ret _) rfl ?_)
    | refine AV.bool_congr ?_ | refine AV.int_congr ?_ | refine AV.str_congr ?_ | refine AV.list_congr ?_ | with_reducible rfl | refine fr1 ?_ | refine fr2 ?_ ?_
  · rename_i h
    have : plainHead x = false := by unfold plainHead; rw [Bool.not_eq_false']; exact h
    rw [parseF_no (plainHead_no this)]
  rename_i h
  have hp : plainHead x = true := by unfold plainHead; rw [Bool.not_eq_true']; exact h
  clear h
  repeat' first
    | contradiction | exact trivial
    | (conv => whnf
       first | refine Need.mk (fun h => h) ?_ | refine Need.mk rfl ?_ | refine Need.mk ⟨rfl, Nat.le_of_ble_eq_true rfl⟩ ?_ | refine Need.mk (Nat.le_of_ble_eq_true rfl) ?_ | refine Need.fin ?_ | refine Need.mk ?_ ?_ | refine Ix.strsF rfl ?_ | refine Ix.strs rfl ?_ ?_ | refine Cut.strs rfl ?_ ?_ | refine Ix.mapF (fun _ => rfl) ?_ | refine Ix.map (fun _ => rfl) ?_ ?_ | refine Cut.map (fun _ => rfl) ?_ ?_ | refine Fork.yes (by assumption) ?_ | refine Fork.no (by assumption) ?_ | refine Fork.decYes (by omega) ?_ | refine Fork.decNo (by omega) ?_ | refine Fork.dec (fun _ => ?_) (fun _ => ?_) | refine Fork.bne (fun _ => ?_) (fun _ => ?_) | refine Fork.beq (fun _ => ?_) (fun _ => ?_) | refine Fork.seq (fun _ => ?_) (fun _ => ?_) | refine Fork.sne (fun _ => ?_) (fun _ => ?_) | refine Fork.neg (fun _ => ?_) (fun _ => ?_) | refine Fork.mk (fun _ => ?_) (fun _ => ?_) | refine HAlt.mk ?_ ?_ | apply HJoin.mk3 | exact HEnd.mk rfl rfl rfl | refine HEnd.mk ?_ ?_ ?_ | refine Round.mk ?_ | refine NilQ.mk (fun b hb => ?_) | refine forceK_of ?_ | refine forceBx_of ?_ | refine unG_old ?_ | refine unG_gv ?_ | refine Lit.read rfl ?_ | refine FinVal.keep ?_ | refine FinAgg.keep ?_ | refine Final.mk rfl rfl | refine Final.mk ?_ rfl | refine Final.mk ?_ ?_ | refine FinalT.mk ?_ ?_ | refine FinalC.allA ?_)
    | refine AV.bool_congr ?_ | refine AV.int_congr ?_ | refine AV.str_congr ?_ | refine AV.list_congr ?_ | with_reducible rfl | refine fr1 ?_ | refine fr2 ?_ ?_
  refine ALoop.mk Nat (fun i => ⟨[(0, .str x), (4, .val (.int .i64 (valA 0 (x.take i)))), (20, .bptr 0 0)], [.iter x i], []⟩) (fun i => i ≤ x.length ∧ (x.take i).all dig = true ∧ valA 0 (x.take i) ≤ 9999) (fun i => x.length - i) ⟨0, ⟨Nat.zero_le _, rfl, by simp [valA]⟩, ?_⟩ (fun i hi => ?_)
  · repeat' first
      | exact trivial | refine Weak.mk ?_ ?_ ?_ ?_ (Or.inl (Nat.le_of_ble_eq_true rfl)) | refine Weak.mk ?_ ?_ ?_ ?_ (Or.inr ⟨(by repeat' first | exact trivial | exact Nat.le_of_ble_eq_true rfl | refine And.intro ?_ ?_), (by repeat' first | exact trivial | exact Nat.le_of_ble_eq_true rfl | refine And.intro ?_ ?_)⟩) | refine Weak.mk ?_ ?_ ?_ ?_ ?_ | refine And.intro ?_ ?_ | with_reducible rfl | exact Nat.le_of_ble_eq_true rfl | refine fr1 ?_ | refine fr2 ?_ ?_ | refine AV.int_congr ?_ | refine AV.bool_congr ?_ | refine AV.str_congr ?_ | refine AV.list_congr ?_ | refine AV.bsl_congr ?_ ?_ | (apply rfl)
  repeat' first
    | contradiction | exact trivial
    | (conv => whnf
       first | refine Need.mk (fun h => h) ?_ | refine Need.mk rfl ?_ | refine Need.mk ⟨rfl, Nat.le_of_ble_eq_true rfl⟩ ?_ | refine Need.mk (Nat.le_of_ble_eq_true rfl) ?_ | refine Need.fin ?_ | refine Need.mk ?_ ?_ | refine Ix.strsF rfl ?_ | refine Ix.strs rfl ?_ ?_ | refine Cut.strs rfl ?_ ?_ | refine Ix.mapF (fun _ => rfl) ?_ | refine Ix.map (fun _ => rfl) ?_ ?_ | refine Cut.map (fun _ => rfl) ?_ ?_ | refine Fork.yes (by assumption) ?_ | refine Fork.no (by assumption) ?_ | refine Fork.decYes (by omega) ?_ | refine Fork.decNo (by omega) ?_ | refine Fork.dec (fun _ => ?_) (fun _ => ?_) | refine Fork.bne (fun _ => ?_) (fun _ => ?_) | refine Fork.beq (fun _ => ?_) (fun _ => ?_) | refine Fork.seq (fun _ => ?_) (fun _ => ?_) | refine Fork.sne (fun _ => ?_) (fun _ => ?_) | refine Fork.neg (fun _ => ?_) (fun _ => ?_) | refine Fork.mk (fun _ => ?_) (fun _ => ?_) | refine HAlt.mk ?_ ?_ | apply HJoin.mk3 | exact HEnd.mk rfl rfl rfl | refine HEnd.mk ?_ ?_ ?_ | refine Round.mk ?_ | refine NilQ.mk (fun b hb => ?_) | refine forceK_of ?_ | refine forceBx_of ?_ | refine unG_old ?_ | refine unG_gv ?_ | refine Lit.read rfl ?_ | refine FinVal.keep ?_ | refine FinAgg.keep ?_ | refine Final.mk rfl rfl | refine Final.mk ?_ rfl | refine Final.mk ?_ ?_ | refine FinalT.mk ?_ ?_ | refine FinalC.allA ?_ | refine ACall.scalA _ _ (isDigit.ret _) rfl ?_ | refine AQCall.mkA _ _ (fun hg => isDigit.ret _) rfl ?_)
    | refine AV.bool_congr ?_ | refine AV.int_congr ?_ | refine AV.str_congr ?_ | refine AV.list_congr ?_ | with_reducible rfl | refine fr1 ?_ | refine fr2 ?_ ?_
  · rename_i h0 _ h
    rw [parseF_no (digs_no h0 (dec_digit_no h0 h))]
  · rename_i h0 _ h h9
    obtain ⟨hc, e⟩ := dec_digit h0 h
    rw [e, wrap_val32 hi.2.2 hc, ← val_succ h0] at h9
    have hd := digs_succ h0 hi.2.1 hc
    have hn : numF x = false := by
      cases hn : numF x with
      | false => rfl
      | true =>
        exfalso
        simp only [numF, Bool.and_eq_true, decide_eq_true_eq] at hn
        have := valA_le4 hd hn.2
        omega
    rw [parseF_no hn]
  · rename_i h0 _ h h9
    obtain ⟨hc, e⟩ := dec_digit h0 h
    rw [e, wrap_val32 hi.2.2 hc, ← val_succ h0] at h9
    refine ⟨i + 1, ⟨h0, digs_succ h0 hi.2.1 hc, by omega⟩, ?_, by omega⟩
    repeat' first
      | exact trivial | refine Weak.mk ?_ ?_ ?_ ?_ (Or.inl (Nat.le_of_ble_eq_true rfl)) | refine Weak.mk ?_ ?_ ?_ ?_ (Or.inr ⟨(by repeat' first | exact trivial | exact Nat.le_of_ble_eq_true rfl | refine And.intro ?_ ?_), (by repeat' first | exact trivial | exact Nat.le_of_ble_eq_true rfl | refine And.intro ?_ ?_)⟩) | refine Weak.mk ?_ ?_ ?_ ?_ ?_ | refine And.intro ?_ ?_ | with_reducible rfl | exact Nat.le_of_ble_eq_true rfl | refine fr1 ?_ | refine fr2 ?_ ?_ | refine AV.int_congr ?_ | refine AV.bool_congr ?_ | refine AV.str_congr ?_ | refine AV.list_congr ?_ | refine AV.bsl_congr ?_ ?_ | (apply rfl)
    · rw [e, wrap_val32 hi.2.2 hc, ← val_succ h0]
    · simp [e]
  · rename_i h0 _
    rw [List.take_of_length_le (by omega)] at hi ⊢
    have h1 := isNum_of hp hi.2.1
    have hn : numF x = true := by simp [numF, h1, isNum_len h1 hi.2.2]
    rw [parseF_yes hn]
end Go.Proofs.YtfffboofmccfhaaGreat
namespace Go.Proofs.YtfffboofmccfhaaGreat
open Abs
def nameF (x : Str) : Bool := atomF x && letter (x.getD 0 0).toNat
def varF (x : Str) : Bool := decide (1 < (x.length : Int)) && ((x.getD 0 0).toNat : Int) == 63 && atomF (x.drop 1)
theorem atomF_pos {x : Str} (h : atomF x = true) : 1 ≤ x.length := by
  simp only [atomF, Bool.and_eq_true, decide_eq_true_eq] at h; omega
theorem sIsName.ret (x : Str) (hx : x.length ≤ 1048576) : sIsName.Ret [.str x] (.val (.bool (nameF x))) [] := by
  refine sIsName.of rfl ?_
  repeat' first
    | contradiction | exact trivial
    | (conv => whnf
       first | refine Need.mk (fun h => h) ?_ | refine Need.mk rfl ?_ | refine Need.mk ⟨rfl, Nat.le_of_ble_eq_true rfl⟩ ?_ | refine Need.mk (Nat.le_of_ble_eq_true rfl) ?_ | refine Need.fin ?_ | refine Need.mk ?_ ?_ | refine Ix.strsF rfl ?_ | refine Ix.strs rfl ?_ ?_ | refine Cut.strs rfl ?_ ?_ | refine Ix.mapF (fun _ => rfl) ?_ | refine Ix.map (fun _ => rfl) ?_ ?_ | refine Cut.map (fun _ => rfl) ?_ ?_ | refine Fork.yes (by assumption) ?_ | refine Fork.no (by assumption) ?_ | refine Fork.decYes (by omega) ?_ | refine Fork.decNo (by omega) ?_ | refine Fork.dec (fun _ => ?_) (fun _ => ?_) | refine Fork.bne (fun _ => ?_) (fun _ => ?_) | refine Fork.beq (fun _ => ?_) (fun _ => ?_) | refine Fork.seq (fun _ => ?_) (fun _ => ?_) | refine Fork.sne (fun _ => ?_) (fun _ => ?_) | refine Fork.neg (fun _ => ?_) (fun _ => ?_) | refine Fork.mk (fun _ => ?_) (fun _ => ?_) | refine HAlt.mk ?_ ?_ | apply HJoin.mk3 | exact HEnd.mk rfl rfl rfl | refine HEnd.mk ?_ ?_ ?_ | refine Round.mk ?_ | refine NilQ.mk (fun b hb => ?_) | refine forceK_of ?_ | refine forceBx_of ?_ | refine unG_old ?_ | refine unG_gv ?_ | refine Lit.read rfl ?_ | refine FinVal.keep ?_ | refine FinAgg.keep ?_ | refine Final.mk rfl rfl | refine Final.mk ?_ rfl | refine Final.mk ?_ ?_ | refine FinalT.mk ?_ ?_ | refine FinalC.allA ?_ | refine ACall.scalA _ _ (sIsAtom.ret _ ?_) rfl ?_ | refine AQCall.mkA _ _ (fun hg => sIsAtom.ret _ ?_) rfl ?_ | refine ACall.scalA _ _ (l1In.ret _ _ _) rfl ?_ | refine AQCall.mkA _ _ (fun hg => l1In.ret _ _ _) rfl ?_)
    | refine AV.bool_congr ?_ | refine AV.int_congr ?_ | refine AV.str_congr ?_ | refine AV.list_congr ?_ | with_reducible rfl | refine fr1 ?_ | refine fr2 ?_ ?_
  · exact hx
  · intro h; have := atomF_pos h; omega
  · simp only [nameF, letter, wrap64_byte]; rfl
theorem pIsName.ret (x : Str) (hx : x.length ≤ 1048576) : pIsName.Ret [.str x] (.val (.bool (nameF x))) [] := by
  refine pIsName.of rfl ?_
  repeat' first
    | contradiction | exact trivial
    | (conv => whnf
       first | refine Need.mk (fun h => h) ?_ | refine Need.mk rfl ?_ | refine Need.mk ⟨rfl, Nat.le_of_ble_eq_true rfl⟩ ?_ | refine Need.mk (Nat.le_of_ble_eq_true rfl) ?_ | refine Need.fin ?_ | refine Need.mk ?_ ?_ | refine Ix.strsF rfl ?_ | refine Ix.strs rfl ?_ ?_ | refine Cut.strs rfl ?_ ?_ | refine Ix.mapF (fun _ => rfl) ?_ | refine Ix.map (fun _ => rfl) ?_ ?_ | refine Cut.map (fun _ => rfl) ?_ ?_ | refine Fork.yes (by assumption) ?_ | refine Fork.no (by assumption) ?_ | refine Fork.decYes (by omega) ?_ | refine Fork.decNo (by omega) ?_ | refine Fork.dec (fun _ => ?_) (fun _ => ?_) | refine Fork.bne (fun _ => ?_) (fun _ => ?_) | refine Fork.beq (fun _ => ?_) (fun _ => ?_) | refine Fork.seq (fun _ => ?_) (fun _ => ?_) | refine Fork.sne (fun _ => ?_) (fun _ => ?_) | refine Fork.neg (fun _ => ?_) (fun _ => ?_) | refine Fork.mk (fun _ => ?_) (fun _ => ?_) | refine HAlt.mk ?_ ?_ | apply HJoin.mk3 | exact HEnd.mk rfl rfl rfl | refine HEnd.mk ?_ ?_ ?_ | refine Round.mk ?_ | refine NilQ.mk (fun b hb => ?_) | refine forceK_of ?_ | refine forceBx_of ?_ | refine unG_old ?_ | refine unG_gv ?_ | refine Lit.read rfl ?_ | refine FinVal.keep ?_ | refine FinAgg.keep ?_ | refine Final.mk rfl rfl | refine Final.mk ?_ rfl | refine Final.mk ?_ ?_ | refine FinalT.mk ?_ ?_ | refine FinalC.allA ?_ | refine ACall.scalA _ _ (pIsAtom.ret _ ?_) rfl ?_ | refine AQCall.mkA _ _ (fun hg => pIsAtom.ret _ ?_) rfl ?_ | refine ACall.scalA _ _ (isLetter.ret _) rfl ?_ | refine AQCall.mkA _ _ (fun hg => isLetter.ret _) rfl ?_)
    | refine AV.bool_congr ?_ | refine AV.int_congr ?_ | refine AV.str_congr ?_ | refine AV.list_congr ?_ | with_reducible rfl | refine fr1 ?_ | refine fr2 ?_ ?_
  · exact hx
  · intro h; have := atomF_pos h; omega
  · simp only [nameF, wrap32_byte]; rfl
end Go.Proofs.YtfffboofmccfhaaGreat
namespace Go.Proofs.YtfffboofmccfhaaGreat
open Abs
attribute [local irreducible] parseF
@[irreducible] def scmp (a b : Str) : Int := if Op.bytesLess a b then -1 else if a = b then 0 else 1
@[irreducible] def icmp (a b : Int) : Int := if a < b then -1 else if a = b then 0 else 1
def cmpA (a b : Str) : Int :=
  if (parseF a).2 then (if (parseF b).2 then icmp (parseF a).1 (parseF b).1 else -1) else (if (parseF b).2 then 1 else scmp a b)
theorem sCmp.ret (a b : Str) : sCmp.Ret [.str a, .str b] (.val (.int .i64 (scmp a b))) [] := by
  refine sCmp.of rfl ?_
  repeat' first
    | contradiction | exact trivial
    | (conv => whnf
       first | refine Need.mk (fun h => h) ?_ | refine Need.mk rfl ?_ | refine Need.mk ⟨rfl, Nat.le_of_ble_eq_true rfl⟩ ?_ | refine Need.mk (Nat.le_of_ble_eq_true rfl) ?_ | refine Need.fin ?_ | refine Need.mk ?_ ?_ | refine Ix.strsF rfl ?_ | refine Ix.strs rfl ?_ ?_ | refine Cut.strs rfl ?_ ?_ | refine Ix.mapF (fun _ => rfl) ?_ | refine Ix.map (fun _ => rfl) ?_ ?_ | refine Cut.map (fun _ => rfl) ?_ ?_ | refine Fork.yes (by assumption) ?_ | refine Fork.no (by assumption) ?_ | refine Fork.decYes (by omega) ?_ | refine Fork.decNo (by omega) ?_ | refine Fork.dec (fun _ => ?_) (fun _ => ?_) | refine Fork.bne (fun _ => ?_) (fun _ => ?_) | refine Fork.beq (fun _ => ?_) (fun _ => ?_) | refine Fork.seq (fun _ => ?_) (fun _ => ?_) | refine Fork.sne (fun _ => ?_) (fun _ => ?_) | refine Fork.neg (fun _ => ?_) (fun _ => ?_) | refine Fork.mk (fun _ => ?_) (fun _ => ?_) | refine HAlt.mk ?_ ?_ | apply HJoin.mk3 | exact HEnd.mk rfl rfl rfl | refine HEnd.mk ?_ ?_ ?_ | refine Round.mk ?_ | refine NilQ.mk (fun b hb => ?_) | refine forceK_of ?_ | refine forceBx_of ?_ | refine unG_old ?_ | refine unG_gv ?_ | refine Lit.read rfl ?_ | refine FinVal.keep ?_ | refine FinAgg.keep ?_ | refine Final.mk rfl rfl | refine Final.mk ?_ rfl | refine Final.mk ?_ ?_ | refine FinalT.mk ?_ ?_ | refine FinalC.allA ?_)
    | refine AV.bool_congr ?_ | refine AV.int_congr ?_ | refine AV.str_congr ?_ | refine AV.list_congr ?_ | with_reducible rfl | refine fr1 ?_ | refine fr2 ?_ ?_
  · rename_i h; simp [scmp, h]
  · rename_i h1 h; simp only [Bool.or_eq_false_iff, beq_eq_false_iff_ne] at h; simp [scmp, h1, h.2]
  · rename_i h1 h; simp only [h1, Bool.false_or, beq_iff_eq] at h; subst h; simp [scmp, bl_irrefl]
theorem sCompareAtoms.ret (a b : Str) (ha : a.length ≤ 1048576) (hb : b.length ≤ 1048576) : sCompareAtoms.Ret [.str a, .str b] (.val (.int .i64 (cmpA a b))) [] := by
  refine sCompareAtoms.of rfl ?_
  repeat' first
    | contradiction | exact trivial
    | (conv => whnf
       first | refine Need.mk (fun h => h) ?_ | refine Need.mk rfl ?_ | refine Need.mk ⟨rfl, Nat.le_of_ble_eq_true rfl⟩ ?_ | refine Need.mk (Nat.le_of_ble_eq_true rfl) ?_ | refine Need.fin ?_ | refine Need.mk ?_ ?_ | refine Ix.strsF rfl ?_ | refine Ix.strs rfl ?_ ?_ | refine Cut.strs rfl ?_ ?_ | refine Ix.mapF (fun _ => rfl) ?_ | refine Ix.map (fun _ => rfl) ?_ ?_ | refine Cut.map (fun _ => rfl) ?_ ?_ | refine Fork.yes (by assumption) ?_ | refine Fork.no (by assumption) ?_ | refine Fork.decYes (by omega) ?_ | refine Fork.decNo (by omega) ?_ | refine Fork.dec (fun _ => ?_) (fun _ => ?_) | refine Fork.bne (fun _ => ?_) (fun _ => ?_) | refine Fork.beq (fun _ => ?_) (fun _ => ?_) | refine Fork.seq (fun _ => ?_) (fun _ => ?_) | refine Fork.sne (fun _ => ?_) (fun _ => ?_) | refine Fork.neg (fun _ => ?_) (fun _ => ?_) | refine Fork.mk (fun _ => ?_) (fun _ => ?_) | refine HAlt.mk ?_ ?_ | apply HJoin.mk3 | exact HEnd.mk rfl rfl rfl | refine HEnd.mk ?_ ?_ ?_ | refine Round.mk ?_ | refine NilQ.mk (fun b hb => ?_) | refine forceK_of ?_ | refine forceBx_of ?_ | refine unG_old ?_ | refine unG_gv ?_ | refine Lit.read rfl ?_ | refine FinVal.keep ?_ | refine FinAgg.keep ?_ | refine Final.mk rfl rfl | refine Final.mk ?_ rfl | refine Final.mk ?_ ?_ | refine FinalT.mk ?_ ?_ | refine FinalC.allA ?_ | refine ACall.scalA _ _ (sParseInt.ret _ ?_) rfl ?_ | refine AQCall.mkA _ _ (fun hg => sParseInt.ret _ ?_) rfl ?_ | refine ACall.scalA _ _ (sCmp.ret _ _) rfl ?_ | refine AQCall.mkA _ _ (fun hg => sCmp.ret _ _) rfl ?_)
    | refine AV.bool_congr ?_ | refine AV.int_congr ?_ | refine AV.str_congr ?_ | refine AV.list_congr ?_ | with_reducible rfl | refine fr1 ?_ | refine fr2 ?_ ?_
  · exact ha
  · exact hb
  all_goals unfold cmpA icmp
  all_goals (cases hp : (parseF a).2 <;> cases hq : (parseF b).2)
  all_goals simp only [hp, hq, Bool.true_and, Bool.false_and, Bool.and_true, Bool.and_false, Bool.not_true, Bool.not_false, decide_eq_true_eq, decide_eq_false_iff_not, Bool.false_eq_true, Bool.true_eq_false, reduceIte] at *
  all_goals (first | rfl | (split <;> (try split) <;> omega))
end Go.Proofs.YtfffboofmccfhaaGreat
namespace Go.Proofs.YtfffboofmccfhaaGreat
open Abs
def sIsFact.code : ACode := (.seq (.region false [s 1 (.box (t 0)), s 2 (.mv (.const (.bool false)))]) (.seq (.seq (.region false [s 3 (.mv (.const (.int .i64 0)))]) (.block 0 (.loop (.seq (.seq (.region false [s 4 (.mv (t 3)), s 5 (.fadr 1 (t 1)), s 6 (.load false 1 (t 5)), s 7 (.len false (t 6)), s 8 (.bin .lss (t 4) (t 7))]) (.cond (t 8) .skip (.exit 0))) (.seq (.block 1 (.seq (.region false [s 11 (.fadr 1 (t 1)), s 12 (.load false 1 (t 11)), s 13 (.mv (t 3)), s 14 (.iadr 1 (t 12) (t 13)), s 15 (.load false 1 (t 14)), s 16 (.call 36 [(t 15)]), s 17 (.not (t 16))]) (.cond (t 17) (.seq (.region false [s 2 (.mv (.const (.bool false)))]) .ret) .skip))) (.region false [s 9 (.mv (t 3)), s 10 (.bin .add (t 9) (.const (.int .i64 1))), s 3 (.mv (t 10))])))))) (.seq (.region false [s 18 (.fadr 0 (t 1)), s 19 (.load false 1 (t 18)), s 20 (.call 53 [(t 19)]), s 21 (.mv (t 20)), g 21 true 22 (.fadr 1 (t 1)), g 21 true 23 (.load false 1 (t 22)), g 21 true 24 (.len false (t 23)), g 21 true 25 (.bin .leq (t 24) (.const (.int .i64 3))), s 26 (.and (t 21) (t 25)), s 2 (.mv (t 26))]) .ret)))
def sIsFact.keep : List Nat := [0, 1, 2, 3]
def sIsFact.res : List RRes := [.tmp 2]
theorem sIsFact.of {mo : Bool} {args : List AV} {r : AV} {frs : Fr} (hn : Nat.ble args.length Tryz.f55.ntmps = true) (h : aCode (Kn mo Tryz.prog) sIsFact.keep 0 sIsFact.code (doneK sIsFact.res r frs) ⟨argEnv 0 args, [], []⟩) : Abs.Ret mo Tryz.prog 55 args r frs :=
  Abs.Ret.of_ir Tryz.func55 rfl (by kernel_rfl) (Nat.le_of_ble_eq_true hn) (by kernel_rfl) (by kernel_rfl) h
abbrev sIsFact.Ret (args : List AV) (r : AV) (frs : Fr) : Prop := Abs.Ret true Tryz.prog 55 args r frs
def pIsFact.code : ACode := (.seq (.region false [s 1 (.box (t 0)), s 2 (.mv (.const (.bool false)))]) (.seq (.region false [s 3 (.fadr 0 (t 1)), s 4 (.load false 1 (t 3)), s 5 (.fadr 1 (t 1)), s 6 (.load false 1 (t 5)), s 7 (.call 61 [(t 4), (t 6), (.func 47)]), s 2 (.mv (t 7))]) .ret))
def pIsFact.keep : List Nat := [0, 1, 2]
def pIsFact.res : List RRes := [.tmp 2]
theorem pIsFact.of {mo : Bool} {args : List AV} {r : AV} {frs : Fr} (hn : Nat.ble args.length Tryz.f67.ntmps = true) (h : aCode (Kn mo Tryz.prog) pIsFact.keep 0 pIsFact.code (doneK pIsFact.res r frs) ⟨argEnv 0 args, [], []⟩) : Abs.Ret mo Tryz.prog 67 args r frs :=
  Abs.Ret.of_ir Tryz.func67 rfl (by kernel_rfl) (Nat.le_of_ble_eq_true hn) (by kernel_rfl) (by kernel_rfl) h
abbrev pIsFact.Ret (args : List AV) (r : AV) (frs : Fr) : Prop := Abs.Ret true Tryz.prog 67 args r frs
def sCopy.code : ACode := (.seq (.region false [s 1 (.box (t 0)), s 2 (.alloc [(.string (.mk (.mk []))), (.slice none 0 0)])]) (.seq (.held [s 3 (.fadr 0 (t 1)), s 4 (.load false 1 (t 3)), s 5 (.fadr 1 (t 1)), s 6 (.load false 1 (t 5)), s 7 (.call 58 [(t 6)])] [s 8 (.build [(.string (.mk (.mk []))), (.slice none 0 0)] [(0, 1), (1, 1)] [(t 4), (t 7)]), ⟨none, none, (.store 2 (t 2) (t 8))⟩]) .ret))
def sCopy.keep : List Nat := [0, 1, 2]
def sCopy.res : List RRes := [.cell 2 true 2]
theorem sCopy.of {mo : Bool} {args : List AV} {r : AV} {frs : Fr} (hn : Nat.ble args.length Tryz.f38.ntmps = true) (h : aCode (Kn mo Tryz.prog) sCopy.keep 0 sCopy.code (doneK sCopy.res r frs) ⟨argEnv 0 args, [], []⟩) : Abs.Ret mo Tryz.prog 38 args r frs :=
  Abs.Ret.of_ir Tryz.func38 rfl (by kernel_rfl) (Nat.le_of_ble_eq_true hn) (by kernel_rfl) (by kernel_rfl) h
abbrev sCopy.Ret (args : List AV) (r : AV) (frs : Fr) : Prop := Abs.Ret true Tryz.prog 38 args r frs
def pcopyFact.code : ACode := (.seq (.region false [s 1 (.box (t 0)), s 2 (.alloc [(.string (.mk (.mk []))), (.slice none 0 0)])]) (.seq (.held [s 3 (.fadr 0 (t 1)), s 4 (.load false 1 (t 3)), s 5 (.fadr 1 (t 1)), s 6 (.load false 1 (t 5)), s 7 (.call 71 [(t 6)])] [s 8 (.build [(.string (.mk (.mk []))), (.slice none 0 0)] [(0, 1), (1, 1)] [(t 4), (t 7)]), ⟨none, none, (.store 2 (t 2) (t 8))⟩]) .ret))
def pcopyFact.keep : List Nat := [0, 1, 2]
def pcopyFact.res : List RRes := [.cell 2 true 2]
theorem pcopyFact.of {mo : Bool} {args : List AV} {r : AV} {frs : Fr} (hn : Nat.ble args.length Tryz.f49.ntmps = true) (h : aCode (Kn mo Tryz.prog) pcopyFact.keep 0 pcopyFact.code (doneK pcopyFact.res r frs) ⟨argEnv 0 args, [], []⟩) : Abs.Ret mo Tryz.prog 49 args r frs :=
  Abs.Ret.of_ir Tryz.func49 rfl (by kernel_rfl) (Nat.le_of_ble_eq_true hn) (by kernel_rfl) (by kernel_rfl) h
abbrev pcopyFact.Ret (args : List AV) (r : AV) (frs : Fr) : Prop := Abs.Ret true Tryz.prog 49 args r frs
end Go.Proofs.YtfffboofmccfhaaGreat
namespace Go.Proofs.YtfffboofmccfhaaGreat
open Abs
theorem str_le {l : List Str} {i : Nat} (hi : i < l.length) : (l.getD i []).length ≤ listSize Ty.str l :=
  listSize_mem Ty.str (List.mem_of_getElem? (by simp [List.getD, hi] : l[i]? = some (l.getD i [])))
def isFactF (f : Fct) : Bool := nameF f.1 && decide ((f.2.length : Int) ≤ 3) && f.2.all atomF
theorem allA_no {x : List Str} {i : Nat} (hi : i < x.length) (h : atomF (x.getD i []) = false) : x.all atomF = false := by
  rw [List.all_eq_false]
  refine ⟨x.getD i [], ?_, by rw [h]; simp⟩
  simp [List.getD, hi]
theorem allA_succ {x : List Str} {i : Nat} (hi : i < x.length) (h : (x.take i).all atomF = true) (hc : atomF (x.getD i []) = true) : (x.take (i + 1)).all atomF = true := by
  rw [take_succ' [] hi, List.all_append, h]; simpa using hc
theorem sIsFact.ret (f : Fct) (h : tFct.size f ≤ 1048576) : sIsFact.Ret [.agg (oldL (tFct.q f))] (.val (.bool (isFactF f))) [] := by
  refine sIsFact.of rfl ?_
  rw [tFct_size, tStrs_size] at h
  repeat' first
    | contradiction | exact trivial
    | (conv => whnf
       first | refine Need.mk (fun h => h) ?_ | refine Need.mk rfl ?_ | refine Need.mk ⟨rfl, Nat.le_of_ble_eq_true rfl⟩ ?_ | refine Need.mk (Nat.le_of_ble_eq_true rfl) ?_ | refine Need.fin ?_ | refine Need.mk ?_ ?_ | refine Ix.strsF rfl ?_ | refine Ix.strs rfl ?_ ?_ | refine Cut.strs rfl ?_ ?_ | refine Ix.mapF (fun _ => rfl) ?_ | refine Ix.map (fun _ => rfl) ?_ ?_ | refine Cut.map (fun _ => rfl) ?_ ?_ | refine Fork.yes (by assumption) ?_ | refine Fork.no (by assumption) ?_ | refine Fork.decYes (by omega) ?_ | refine Fork.decNo (by omega) ?_ | refine Fork.dec (fun _ => ?_) (fun _ => ?_) | refine Fork.bne (fun _ => ?_) (fun _ => ?_) | refine Fork.beq (fun _ => ?_) (fun _ => ?_) | refine Fork.seq (fun _ => ?_) (fun _ => ?_) | refine Fork.sne (fun _ => ?_) (fun _ => ?_) | refine Fork.neg (fun _ => ?_) (fun _ => ?_) | refine Fork.mk (fun _ => ?_) (fun _ => ?_) | refine HAlt.mk ?_ ?_ | apply HJoin.mk3 | exact HEnd.mk rfl rfl rfl | refine HEnd.mk ?_ ?_ ?_ | refine Round.mk ?_ | refine NilQ.mk (fun b hb => ?_) | refine forceK_of ?_ | refine forceBx_of ?_ | refine unG_old ?_ | refine unG_gv ?_ | refine Lit.read rfl ?_ | refine FinVal.keep ?_ | refine FinAgg.keep ?_ | refine Final.mk rfl rfl | refine Final.mk ?_ rfl | refine Final.mk ?_ ?_ | refine FinalT.mk ?_ ?_ | refine FinalC.allA ?_)
    | refine AV.bool_congr ?_ | refine AV.int_congr ?_ | refine AV.str_congr ?_ | refine AV.list_congr ?_ | with_reducible rfl | refine fr1 ?_ | refine fr2 ?_ ?_
  refine ALoop.mk Nat (fun i => ⟨[(1, .bptr 0 0), (3, .val (.int .i64 i))], [.cells .var (oldL (tFct.q f))], []⟩) (fun i => i ≤ f.2.length ∧ (f.2.take i).all atomF = true) (fun i => f.2.length - i) ⟨0, ⟨Nat.zero_le _, rfl⟩, ?_⟩ (fun i hi => ?_)
  · repeat' first
      | exact trivial | refine Weak.mk ?_ ?_ ?_ ?_ (Or.inl (Nat.le_of_ble_eq_true rfl)) | refine Weak.mk ?_ ?_ ?_ ?_ (Or.inr ⟨(by repeat' first | exact trivial | exact Nat.le_of_ble_eq_true rfl | refine And.intro ?_ ?_), (by repeat' first | exact trivial | exact Nat.le_of_ble_eq_true rfl | refine And.intro ?_ ?_)⟩) | refine Weak.mk ?_ ?_ ?_ ?_ ?_ | refine And.intro ?_ ?_ | with_reducible rfl | exact Nat.le_of_ble_eq_true rfl | refine fr1 ?_ | refine fr2 ?_ ?_ | refine AV.int_congr ?_ | refine AV.bool_congr ?_ | refine AV.str_congr ?_ | refine AV.list_congr ?_ | refine AV.bsl_congr ?_ ?_ | (apply rfl)
  repeat' first
    | contradiction | exact trivial
    | (conv => whnf
       first | refine Need.mk (fun h => h) ?_ | refine Need.mk rfl ?_ | refine Need.mk ⟨rfl, Nat.le_of_ble_eq_true rfl⟩ ?_ | refine Need.mk (Nat.le_of_ble_eq_true rfl) ?_ | refine Need.fin ?_ | refine Need.mk ?_ ?_ | refine Ix.strsF rfl ?_ | refine Ix.strs rfl ?_ ?_ | refine Cut.strs rfl ?_ ?_ | refine Ix.mapF (fun _ => rfl) ?_ | refine Ix.map (fun _ => rfl) ?_ ?_ | refine Cut.map (fun _ => rfl) ?_ ?_ | refine Fork.yes (by assumption) ?_ | refine Fork.no (by assumption) ?_ | refine Fork.decYes (by omega) ?_ | refine Fork.decNo (by omega) ?_ | refine Fork.dec (fun _ => ?_) (fun _ => ?_) | refine Fork.bne (fun _ => ?_) (fun _ => ?_) | refine Fork.beq (fun _ => ?_) (fun _ => ?_) | refine Fork.seq (fun _ => ?_) (fun _ => ?_) | refine Fork.sne (fun _ => ?_) (fun _ => ?_) | refine Fork.neg (fun _ => ?_) (fun _ => ?_) | refine Fork.mk (fun _ => ?_) (fun _ => ?_) | refine HAlt.mk ?_ ?_ | apply HJoin.mk3 | exact HEnd.mk rfl rfl rfl | refine HEnd.mk ?_ ?_ ?_ | refine Round.mk ?_ | refine NilQ.mk (fun b hb => ?_) | refine forceK_of ?_ | refine forceBx_of ?_ | refine unG_old ?_ | refine unG_gv ?_ | refine Lit.read rfl ?_ | refine FinVal.keep ?_ | refine FinAgg.keep ?_ | refine Final.mk rfl rfl | refine Final.mk ?_ rfl | refine Final.mk ?_ ?_ | refine FinalT.mk ?_ ?_ | refine FinalC.allA ?_ | refine ACall.scalA _ _ (sIsAtom.ret _ ?_) rfl ?_ | refine AQCall.mkA _ _ (fun hg => sIsAtom.ret _ ?_) rfl ?_ | refine ACall.scalA _ _ (sIsName.ret _ ?_) rfl ?_ | refine AQCall.mkA _ _ (fun hg => sIsName.ret _ ?_) rfl ?_)
    | refine AV.bool_congr ?_ | refine AV.int_congr ?_ | refine AV.str_congr ?_ | refine AV.list_congr ?_ | with_reducible rfl | refine fr1 ?_ | refine fr2 ?_ ?_
  all_goals try simp only [length_rows, length_strs, length_oldLL, List.length_map, Int.toNat_natCast] at *
  · have := str_le (l := f.2) (i := i) (by omega); omega
  · rename_i h2 h1
    simp [isFactF, allA_no (by omega) h2]
  · rename_i h2 h1
    refine ⟨i + 1, ⟨by omega, allA_succ (by omega) hi.2 h2⟩, ?_, by omega⟩
    repeat' first
      | exact trivial | refine Weak.mk ?_ ?_ ?_ ?_ (Or.inl (Nat.le_of_ble_eq_true rfl)) | refine Weak.mk ?_ ?_ ?_ ?_ (Or.inr ⟨(by repeat' first | exact trivial | exact Nat.le_of_ble_eq_true rfl | refine And.intro ?_ ?_), (by repeat' first | exact trivial | exact Nat.le_of_ble_eq_true rfl | refine And.intro ?_ ?_)⟩) | refine Weak.mk ?_ ?_ ?_ ?_ ?_ | refine And.intro ?_ ?_ | with_reducible rfl | exact Nat.le_of_ble_eq_true rfl | refine fr1 ?_ | refine fr2 ?_ ?_ | refine AV.int_congr ?_ | refine AV.bool_congr ?_ | refine AV.str_congr ?_ | refine AV.list_congr ?_ | refine AV.bsl_congr ?_ ?_ | (apply rfl)
    rw [wrap64 (by omega) (by omega)]; rfl
  · omega
  · have := hi.2
    rw [List.take_of_length_le (by omega)] at this
    simp [isFactF, this]
end Go.Proofs.YtfffboofmccfhaaGreat
namespace Go.Proofs.YtfffboofmccfhaaGreat
open Abs
theorem sIsNumber.ret (x : Str) (hx : x.length ≤ 1048576) : sIsNumber.Ret [.str x] (.val (.bool (parseF x).2)) [] := by
  refine sIsNumber.of rfl ?_
  repeat' first
    | contradiction | exact trivial
    | (conv => whnf
       first | refine Need.mk (fun h => h) ?_ | refine Need.mk rfl ?_ | refine Need.mk ⟨rfl, Nat.le_of_ble_eq_true rfl⟩ ?_ | refine Need.mk (Nat.le_of_ble_eq_true rfl) ?_ | refine Need.fin ?_ | refine Need.mk ?_ ?_ | refine Ix.strsF rfl ?_ | refine Ix.strs rfl ?_ ?_ | refine Cut.strs rfl ?_ ?_ | refine Ix.mapF (fun _ => rfl) ?_ | refine Ix.map (fun _ => rfl) ?_ ?_ | refine Cut.map (fun _ => rfl) ?_ ?_ | refine Fork.yes (by assumption) ?_ | refine Fork.no (by assumption) ?_ | refine Fork.decYes (by omega) ?_ | refine Fork.decNo (by omega) ?_ | refine Fork.dec (fun _ => ?_) (fun _ => ?_) | refine Fork.bne (fun _ => ?_) (fun _ => ?_) | refine Fork.beq (fun _ => ?_) (fun _ => ?_) | refine Fork.seq (fun _ => ?_) (fun _ => ?_) | refine Fork.sne (fun _ => ?_) (fun _ => ?_) | refine Fork.neg (fun _ => ?_) (fun _ => ?_) | refine Fork.mk (fun _ => ?_) (fun _ => ?_) | refine HAlt.mk ?_ ?_ | apply HJoin.mk3 | exact HEnd.mk rfl rfl rfl | refine HEnd.mk ?_ ?_ ?_ | refine Round.mk ?_ | refine NilQ.mk (fun b hb => ?_) | refine forceK_of ?_ | refine forceBx_of ?_ | refine unG_old ?_ | refine unG_gv ?_ | refine Lit.read rfl ?_ | refine FinVal.keep ?_ | refine FinAgg.keep ?_ | refine Final.mk rfl rfl | refine Final.mk ?_ rfl | refine Final.mk ?_ ?_ | refine FinalT.mk ?_ ?_ | refine FinalC.allA ?_ | refine ACall.scalA _ _ (sParseInt.ret _ ?_) rfl ?_ | refine AQCall.mkA _ _ (fun hg => sParseInt.ret _ ?_) rfl ?_)
    | refine AV.bool_congr ?_ | refine AV.int_congr ?_ | refine AV.str_congr ?_ | refine AV.list_congr ?_ | with_reducible rfl | refine fr1 ?_ | refine fr2 ?_ ?_
  all_goals exact hx
theorem sIsVar.ret (x : Str) (hx : x.length ≤ 1048576) : sIsVar.Ret [.str x] (.val (.bool (varF x))) [] := by
  refine sIsVar.of rfl ?_
  repeat' first
    | contradiction | exact trivial
    | (conv => whnf
       first | refine Need.mk (fun h => h) ?_ | refine Need.mk rfl ?_ | refine Need.mk ⟨rfl, Nat.le_of_ble_eq_true rfl⟩ ?_ | refine Need.mk (Nat.le_of_ble_eq_true rfl) ?_ | refine Need.fin ?_ | refine Need.mk ?_ ?_ | refine Ix.strsF rfl ?_ | refine Ix.strs rfl ?_ ?_ | refine Cut.strs rfl ?_ ?_ | refine Ix.mapF (fun _ => rfl) ?_ | refine Ix.map (fun _ => rfl) ?_ ?_ | refine Cut.map (fun _ => rfl) ?_ ?_ | refine Fork.yes (by assumption) ?_ | refine Fork.no (by assumption) ?_ | refine Fork.decYes (by omega) ?_ | refine Fork.decNo (by omega) ?_ | refine Fork.dec (fun _ => ?_) (fun _ => ?_) | refine Fork.bne (fun _ => ?_) (fun _ => ?_) | refine Fork.beq (fun _ => ?_) (fun _ => ?_) | refine Fork.seq (fun _ => ?_) (fun _ => ?_) | refine Fork.sne (fun _ => ?_) (fun _ => ?_) | refine Fork.neg (fun _ => ?_) (fun _ => ?_) | refine Fork.mk (fun _ => ?_) (fun _ => ?_) | refine HAlt.mk ?_ ?_ | apply HJoin.mk3 | exact HEnd.mk rfl rfl rfl | refine HEnd.mk ?_ ?_ ?_ | refine Round.mk ?_ | refine NilQ.mk (fun b hb => ?_) | refine forceK_of ?_ | refine forceBx_of ?_ | refine unG_old ?_ | refine unG_gv ?_ | refine Lit.read rfl ?_ | refine FinVal.keep ?_ | refine FinAgg.keep ?_ | refine Final.mk rfl rfl | refine Final.mk ?_ rfl | refine Final.mk ?_ ?_ | refine FinalT.mk ?_ ?_ | refine FinalC.allA ?_ | refine ACall.scalA _ _ (sIsAtom.ret _ ?_) rfl ?_ | refine AQCall.mkA _ _ (fun hg => sIsAtom.ret _ ?_) rfl ?_)
    | refine AV.bool_congr ?_ | refine AV.int_congr ?_ | refine AV.str_congr ?_ | refine AV.list_congr ?_ | with_reducible rfl | refine fr1 ?_ | refine fr2 ?_ ?_
  · simp; omega
  · simp [varF]
def hasP (x p : Str) : Bool := decide ((p.length : Int) ≤ x.length) && x.take p.length == p
def cutP (x p : Str) : Str := if hasP x p then x.drop p.length else x
theorem slHasPrefix.ret (x p : Str) : slHasPrefix.Ret [.str x, .str p] (.val (.bool (hasP x p))) [] := by
  refine slHasPrefix.of rfl ?_
  repeat' first
    | contradiction | exact trivial
    | (conv => whnf
       first | refine Need.mk (fun h => h) ?_ | refine Need.mk rfl ?_ | refine Need.mk ⟨rfl, Nat.le_of_ble_eq_true rfl⟩ ?_ | refine Need.mk (Nat.le_of_ble_eq_true rfl) ?_ | refine Need.fin ?_ | refine Need.mk ?_ ?_ | refine Ix.strsF rfl ?_ | refine Ix.strs rfl ?_ ?_ | refine Cut.strs rfl ?_ ?_ | refine Ix.mapF (fun _ => rfl) ?_ | refine Ix.map (fun _ => rfl) ?_ ?_ | refine Cut.map (fun _ => rfl) ?_ ?_ | refine Fork.yes (by assumption) ?_ | refine Fork.no (by assumption) ?_ | refine Fork.decYes (by omega) ?_ | refine Fork.decNo (by omega) ?_ | refine Fork.dec (fun _ => ?_) (fun _ => ?_) | refine Fork.bne (fun _ => ?_) (fun _ => ?_) | refine Fork.beq (fun _ => ?_) (fun _ => ?_) | refine Fork.seq (fun _ => ?_) (fun _ => ?_) | refine Fork.sne (fun _ => ?_) (fun _ => ?_) | refine Fork.neg (fun _ => ?_) (fun _ => ?_) | refine Fork.mk (fun _ => ?_) (fun _ => ?_) | refine HAlt.mk ?_ ?_ | apply HJoin.mk3 | exact HEnd.mk rfl rfl rfl | refine HEnd.mk ?_ ?_ ?_ | refine Round.mk ?_ | refine NilQ.mk (fun b hb => ?_) | refine forceK_of ?_ | refine forceBx_of ?_ | refine unG_old ?_ | refine unG_gv ?_ | refine Lit.read rfl ?_ | refine FinVal.keep ?_ | refine FinAgg.keep ?_ | refine Final.mk rfl rfl | refine Final.mk ?_ rfl | refine Final.mk ?_ ?_ | refine FinalT.mk ?_ ?_ | refine FinalC.allA ?_)
    | refine AV.bool_congr ?_ | refine AV.int_congr ?_ | refine AV.str_congr ?_ | refine AV.list_congr ?_ | with_reducible rfl | refine fr1 ?_ | refine fr2 ?_ ?_
  all_goals simp [hasP]
theorem slCutPrefix.ret (x p : Str) : slCutPrefix.Ret [.str x, .str p] (.tup [.str (cutP x p), .val (.bool (hasP x p))]) [] := by
  refine slCutPrefix.of rfl ?_
  repeat' first
    | contradiction | exact trivial
    | (conv => whnf
       first | refine Need.mk (fun h => h) ?_ | refine Need.mk rfl ?_ | refine Need.mk ⟨rfl, Nat.le_of_ble_eq_true rfl⟩ ?_ | refine Need.mk (Nat.le_of_ble_eq_true rfl) ?_ | refine Need.fin ?_ | refine Need.mk ?_ ?_ | refine Ix.strsF rfl ?_ | refine Ix.strs rfl ?_ ?_ | refine Cut.strs rfl ?_ ?_ | refine Ix.mapF (fun _ => rfl) ?_ | refine Ix.map (fun _ => rfl) ?_ ?_ | refine Cut.map (fun _ => rfl) ?_ ?_ | refine Fork.yes (by assumption) ?_ | refine Fork.no (by assumption) ?_ | refine Fork.decYes (by omega) ?_ | refine Fork.decNo (by omega) ?_ | refine Fork.dec (fun _ => ?_) (fun _ => ?_) | refine Fork.bne (fun _ => ?_) (fun _ => ?_) | refine Fork.beq (fun _ => ?_) (fun _ => ?_) | refine Fork.seq (fun _ => ?_) (fun _ => ?_) | refine Fork.sne (fun _ => ?_) (fun _ => ?_) | refine Fork.neg (fun _ => ?_) (fun _ => ?_) | refine Fork.mk (fun _ => ?_) (fun _ => ?_) | refine HAlt.mk ?_ ?_ | apply HJoin.mk3 | exact HEnd.mk rfl rfl rfl | refine HEnd.mk ?_ ?_ ?_ | refine Round.mk ?_ | refine NilQ.mk (fun b hb => ?_) | refine forceK_of ?_ | refine forceBx_of ?_ | refine unG_old ?_ | refine unG_gv ?_ | refine Lit.read rfl ?_ | refine FinVal.keep ?_ | refine FinAgg.keep ?_ | refine Final.mk rfl rfl | refine Final.mk ?_ rfl | refine Final.mk ?_ ?_ | refine FinalT.mk ?_ ?_ | refine FinalC.allA ?_ | refine ACall.scalA _ _ (slHasPrefix.ret _ _) rfl ?_ | refine AQCall.mkA _ _ (fun hg => slHasPrefix.ret _ _) rfl ?_)
    | refine AV.bool_congr ?_ | refine AV.int_congr ?_ | refine AV.str_congr ?_ | refine AV.list_congr ?_ | with_reducible rfl | refine fr1 ?_ | refine fr2 ?_ ?_
  · rename_i h; simp [cutP, h]
  all_goals first
    | (rename_i h; simp only [hasP, Bool.and_eq_true, decide_eq_true_eq] at h; simp; omega)
    | (rename_i h; simp [cutP, h]; done)
    | (rename_i h; simp only [hasP, Bool.and_eq_true, decide_eq_true_eq] at h; omega)
theorem cutPrefix.ret (x p : Str) : cutPrefix.Ret [.str x, .str p] (.tup [.str (cutP x p), .val (.bool (hasP x p))]) [] := by
  refine cutPrefix.of rfl ?_
  repeat' first
    | contradiction | exact trivial
    | (conv => whnf
       first | refine Need.mk (fun h => h) ?_ | refine Need.mk rfl ?_ | refine Need.mk ⟨rfl, Nat.le_of_ble_eq_true rfl⟩ ?_ | refine Need.mk (Nat.le_of_ble_eq_true rfl) ?_ | refine Need.fin ?_ | refine Need.mk ?_ ?_ | refine Ix.strsF rfl ?_ | refine Ix.strs rfl ?_ ?_ | refine Cut.strs rfl ?_ ?_ | refine Ix.mapF (fun _ => rfl) ?_ | refine Ix.map (fun _ => rfl) ?_ ?_ | refine Cut.map (fun _ => rfl) ?_ ?_ | refine Fork.yes (by assumption) ?_ | refine Fork.no (by assumption) ?_ | refine Fork.decYes (by omega) ?_ | refine Fork.decNo (by omega) ?_ | refine Fork.dec (fun _ => ?_) (fun _ => ?_) | refine Fork.bne (fun _ => ?_) (fun _ => ?_) | refine Fork.beq (fun _ => ?_) (fun _ => ?_) | refine Fork.seq (fun _ => ?_) (fun _ => ?_) | refine Fork.sne (fun _ => ?_) (fun _ => ?_) | refine Fork.neg (fun _ => ?_) (fun _ => ?_) | refine Fork.mk (fun _ => ?_) (fun _ => ?_) | refine HAlt.mk ?_ ?_ | apply HJoin.mk3 | exact HEnd.mk rfl rfl rfl | refine HEnd.mk ?_ ?_ ?_ | refine Round.mk ?_ | refine NilQ.mk (fun b hb => ?_) | refine forceK_of ?_ | refine forceBx_of ?_ | refine unG_old ?_ | refine unG_gv ?_ | refine Lit.read rfl ?_ | refine FinVal.keep ?_ | refine FinAgg.keep ?_ | refine Final.mk rfl rfl | refine Final.mk ?_ rfl | refine Final.mk ?_ ?_ | refine FinalT.mk ?_ ?_ | refine FinalC.allA ?_ | refine ACall.scalA _ _ (slCutPrefix.ret _ _) rfl ?_ | refine AQCall.mkA _ _ (fun hg => slCutPrefix.ret _ _) rfl ?_)
    | refine AV.bool_congr ?_ | refine AV.int_congr ?_ | refine AV.str_congr ?_ | refine AV.list_congr ?_ | with_reducible rfl | refine fr1 ?_ | refine fr2 ?_ ?_
theorem var_eq (x : Str) : (hasP x [63] && atomF (cutP x [63])) = varF x := by
  match x with
  | [] => rfl
  | [c] =>
    have : varF [c] = false := by simp [varF]
    rw [this]
    cases h : hasP [c] [63] with
    | false => rfl
    | true => simp [cutP, h, atomF]
  | c :: d :: x =>
    by_cases hc : c = 63
    · subst hc
      have h : hasP (63 :: d :: x) [63] = true := by simp [hasP]; omega
      simp [h, cutP, varF]; omega
    · have h : hasP (c :: d :: x) [63] = false := by simp [hasP, hc]
      have h2 : ¬ (c.toNat : Int) = 63 := fun e => hc (by
        have : c.toNat = 63 := by omega
        rw [← UInt8.ofNat_toNat (x := c), this]; rfl)
      simp [h, varF, h2]
theorem pIsVar.ret (x : Str) (hx : x.length ≤ 1048576) : pIsVar.Ret [.str x] (.val (.bool (varF x))) [] := by
  refine pIsVar.of rfl ?_
  repeat' first
    | contradiction | exact trivial
    | (conv => whnf
       first | refine Need.mk (fun h => h) ?_ | refine Need.mk rfl ?_ | refine Need.mk ⟨rfl, Nat.le_of_ble_eq_true rfl⟩ ?_ | refine Need.mk (Nat.le_of_ble_eq_true rfl) ?_ | refine Need.fin ?_ | refine Need.mk ?_ ?_ | refine Ix.strsF rfl ?_ | refine Ix.strs rfl ?_ ?_ | refine Cut.strs rfl ?_ ?_ | refine Ix.mapF (fun _ => rfl) ?_ | refine Ix.map (fun _ => rfl) ?_ ?_ | refine Cut.map (fun _ => rfl) ?_ ?_ | refine Fork.yes (by assumption) ?_ | refine Fork.no (by assumption) ?_ | refine Fork.decYes (by omega) ?_ | refine Fork.decNo (by omega) ?_ | refine Fork.dec (fun _ => ?_) (fun _ => ?_) | refine Fork.bne (fun _ => ?_) (fun _ => ?_) | refine Fork.beq (fun _ => ?_) (fun _ => ?_) | refine Fork.seq (fun _ => ?_) (fun _ => ?_) | refine Fork.sne (fun _ => ?_) (fun _ => ?_) | refine Fork.neg (fun _ => ?_) (fun _ => ?_) | refine Fork.mk (fun _ => ?_) (fun _ => ?_) | refine HAlt.mk ?_ ?_ | apply HJoin.mk3 | exact HEnd.mk rfl rfl rfl | refine HEnd.mk ?_ ?_ ?_ | refine Round.mk ?_ | refine NilQ.mk (fun b hb => ?_) | refine forceK_of ?_ | refine forceBx_of ?_ | refine unG_old ?_ | refine unG_gv ?_ | refine Lit.read rfl ?_ | refine FinVal.keep ?_ | refine FinAgg.keep ?_ | refine Final.mk rfl rfl | refine Final.mk ?_ rfl | refine Final.mk ?_ ?_ | refine FinalT.mk ?_ ?_ | refine FinalC.allA ?_ | refine ACall.scalA _ _ (pIsAtom.ret _ ?_) rfl ?_ | refine AQCall.mkA _ _ (fun hg => pIsAtom.ret _ ?_) rfl ?_ | refine ACall.scalA _ _ (cutPrefix.ret _ _) rfl ?_ | refine AQCall.mkA _ _ (fun hg => cutPrefix.ret _ _) rfl ?_)
    | refine AV.bool_congr ?_ | refine AV.int_congr ?_ | refine AV.str_congr ?_ | refine AV.list_congr ?_ | with_reducible rfl | refine fr1 ?_ | refine fr2 ?_ ?_
  · simp only [cutP]; split <;> simp <;> omega
  · exact var_eq x
theorem sIsTerm.ret (x : Str) (hx : x.length ≤ 1048576) : sIsTerm.Ret [.str x] (.val (.bool (atomF x || varF x))) [] := by
  refine sIsTerm.of rfl ?_
  repeat' first
    | contradiction | exact trivial
    | (conv => whnf
       first | refine Need.mk (fun h => h) ?_ | refine Need.mk rfl ?_ | refine Need.mk ⟨rfl, Nat.le_of_ble_eq_true rfl⟩ ?_ | refine Need.mk (Nat.le_of_ble_eq_true rfl) ?_ | refine Need.fin ?_ | refine Need.mk ?_ ?_ | refine Ix.strsF rfl ?_ | refine Ix.strs rfl ?_ ?_ | refine Cut.strs rfl ?_ ?_ | refine Ix.mapF (fun _ => rfl) ?_ | refine Ix.map (fun _ => rfl) ?_ ?_ | refine Cut.map (fun _ => rfl) ?_ ?_ | refine Fork.yes (by assumption) ?_ | refine Fork.no (by assumption) ?_ | refine Fork.decYes (by omega) ?_ | refine Fork.decNo (by omega) ?_ | refine Fork.dec (fun _ => ?_) (fun _ => ?_) | refine Fork.bne (fun _ => ?_) (fun _ => ?_) | refine Fork.beq (fun _ => ?_) (fun _ => ?_) | refine Fork.seq (fun _ => ?_) (fun _ => ?_) | refine Fork.sne (fun _ => ?_) (fun _ => ?_) | refine Fork.neg (fun _ => ?_) (fun _ => ?_) | refine Fork.mk (fun _ => ?_) (fun _ => ?_) | refine HAlt.mk ?_ ?_ | apply HJoin.mk3 | exact HEnd.mk rfl rfl rfl | refine HEnd.mk ?_ ?_ ?_ | refine Round.mk ?_ | refine NilQ.mk (fun b hb => ?_) | refine forceK_of ?_ | refine forceBx_of ?_ | refine unG_old ?_ | refine unG_gv ?_ | refine Lit.read rfl ?_ | refine FinVal.keep ?_ | refine FinAgg.keep ?_ | refine Final.mk rfl rfl | refine Final.mk ?_ rfl | refine Final.mk ?_ ?_ | refine FinalT.mk ?_ ?_ | refine FinalC.allA ?_ | refine ACall.scalA _ _ (sIsAtom.ret _ ?_) rfl ?_ | refine AQCall.mkA _ _ (fun hg => sIsAtom.ret _ ?_) rfl ?_ | refine ACall.scalA _ _ (sIsVar.ret _ ?_) rfl ?_ | refine AQCall.mkA _ _ (fun hg => sIsVar.ret _ ?_) rfl ?_)
    | refine AV.bool_congr ?_ | refine AV.int_congr ?_ | refine AV.str_congr ?_ | refine AV.list_congr ?_ | with_reducible rfl | refine fr1 ?_ | refine fr2 ?_ ?_
  all_goals exact hx
theorem pIsTerm.ret (x : Str) (hx : x.length ≤ 1048576) : pIsTerm.Ret [.str x] (.val (.bool (atomF x || varF x))) [] := by
  refine pIsTerm.of rfl ?_
  repeat' first
    | contradiction | exact trivial
    | (conv => whnf
       first | refine Need.mk (fun h => h) ?_ | refine Need.mk rfl ?_ | refine Need.mk ⟨rfl, Nat.le_of_ble_eq_true rfl⟩ ?_ | refine Need.mk (Nat.le_of_ble_eq_true rfl) ?_ | refine Need.fin ?_ | refine Need.mk ?_ ?_ | refine Ix.strsF rfl ?_ | refine Ix.strs rfl ?_ ?_ | refine Cut.strs rfl ?_ ?_ | refine Ix.mapF (fun _ => rfl) ?_ | refine Ix.map (fun _ => rfl) ?_ ?_ | refine Cut.map (fun _ => rfl) ?_ ?_ | refine Fork.yes (by assumption) ?_ | refine Fork.no (by assumption) ?_ | refine Fork.decYes (by omega) ?_ | refine Fork.decNo (by omega) ?_ | refine Fork.dec (fun _ => ?_) (fun _ => ?_) | refine Fork.bne (fun _ => ?_) (fun _ => ?_) | refine Fork.beq (fun _ => ?_) (fun _ => ?_) | refine Fork.seq (fun _ => ?_) (fun _ => ?_) | refine Fork.sne (fun _ => ?_) (fun _ => ?_) | refine Fork.neg (fun _ => ?_) (fun _ => ?_) | refine Fork.mk (fun _ => ?_) (fun _ => ?_) | refine HAlt.mk ?_ ?_ | apply HJoin.mk3 | exact HEnd.mk rfl rfl rfl | refine HEnd.mk ?_ ?_ ?_ | refine Round.mk ?_ | refine NilQ.mk (fun b hb => ?_) | refine forceK_of ?_ | refine forceBx_of ?_ | refine unG_old ?_ | refine unG_gv ?_ | refine Lit.read rfl ?_ | refine FinVal.keep ?_ | refine FinAgg.keep ?_ | refine Final.mk rfl rfl | refine Final.mk ?_ rfl | refine Final.mk ?_ ?_ | refine FinalT.mk ?_ ?_ | refine FinalC.allA ?_ | refine ACall.scalA _ _ (pIsAtom.ret _ ?_) rfl ?_ | refine AQCall.mkA _ _ (fun hg => pIsAtom.ret _ ?_) rfl ?_ | refine ACall.scalA _ _ (pIsVar.ret _ ?_) rfl ?_ | refine AQCall.mkA _ _ (fun hg => pIsVar.ret _ ?_) rfl ?_)
    | refine AV.bool_congr ?_ | refine AV.int_congr ?_ | refine AV.str_congr ?_ | refine AV.list_congr ?_ | with_reducible rfl | refine fr1 ?_ | refine fr2 ?_ ?_
  all_goals exact hx
end Go.Proofs.YtfffboofmccfhaaGreat
namespace Go.Proofs.YtfffboofmccfhaaGreat
open Abs
def sIsPattern.code : ACode := (.seq (.region false [s 1 (.box (t 0)), s 2 (.mv (.const (.bool false)))]) (.seq (.seq (.region false [s 3 (.mv (.const (.int .i64 0)))]) (.block 0 (.loop (.seq (.seq (.region false [s 4 (.mv (t 3)), s 5 (.fadr 1 (t 1)), s 6 (.load false 1 (t 5)), s 7 (.len false (t 6)), s 8 (.bin .lss (t 4) (t 7))]) (.cond (t 8) .skip (.exit 0))) (.seq (.block 1 (.seq (.region false [s 11 (.fadr 1 (t 1)), s 12 (.load false 1 (t 11)), s 13 (.mv (t 3)), s 14 (.iadr 1 (t 12) (t 13)), s 15 (.load false 1 (t 14)), s 16 (.call 34 [(t 15)]), s 17 (.not (t 16))]) (.cond (t 17) (.seq (.region false [s 2 (.mv (.const (.bool false)))]) .ret) .skip))) (.region false [s 9 (.mv (t 3)), s 10 (.bin .add (t 9) (.const (.int .i64 1))), s 3 (.mv (t 10))])))))) (.seq (.region false [s 18 (.fadr 0 (t 1)), s 19 (.load false 1 (t 18)), s 20 (.call 53 [(t 19)]), s 21 (.mv (t 20)), g 21 true 22 (.fadr 1 (t 1)), g 21 true 23 (.load false 1 (t 22)), g 21 true 24 (.len false (t 23)), g 21 true 25 (.bin .leq (t 24) (.const (.int .i64 3))), s 26 (.and (t 21) (t 25)), s 2 (.mv (t 26))]) .ret)))
def sIsPattern.keep : List Nat := [0, 1, 2, 3]
def sIsPattern.res : List RRes := [.tmp 2]
theorem sIsPattern.of {mo : Bool} {args : List AV} {r : AV} {frs : Fr} (hn : Nat.ble args.length Tryz.f33.ntmps = true) (h : aCode (Kn mo Tryz.prog) sIsPattern.keep 0 sIsPattern.code (doneK sIsPattern.res r frs) ⟨argEnv 0 args, [], []⟩) : Abs.Ret mo Tryz.prog 33 args r frs :=
  Abs.Ret.of_ir Tryz.func33 rfl (by kernel_rfl) (Nat.le_of_ble_eq_true hn) (by kernel_rfl) (by kernel_rfl) h
abbrev sIsPattern.Ret (args : List AV) (r : AV) (frs : Fr) : Prop := Abs.Ret true Tryz.prog 33 args r frs
def pIsPattern.code : ACode := (.seq (.region false [s 1 (.box (t 0)), s 2 (.mv (.const (.bool false)))]) (.seq (.region false [s 3 (.fadr 0 (t 1)), s 4 (.load false 1 (t 3)), s 5 (.fadr 1 (t 1)), s 6 (.load false 1 (t 5)), s 7 (.call 61 [(t 4), (t 6), (.func 62)]), s 2 (.mv (t 7))]) .ret))
def pIsPattern.keep : List Nat := [0, 1, 2]
def pIsPattern.res : List RRes := [.tmp 2]
theorem pIsPattern.of {mo : Bool} {args : List AV} {r : AV} {frs : Fr} (hn : Nat.ble args.length Tryz.f44.ntmps = true) (h : aCode (Kn mo Tryz.prog) pIsPattern.keep 0 pIsPattern.code (doneK pIsPattern.res r frs) ⟨argEnv 0 args, [], []⟩) : Abs.Ret mo Tryz.prog 44 args r frs :=
  Abs.Ret.of_ir Tryz.func44 rfl (by kernel_rfl) (Nat.le_of_ble_eq_true hn) (by kernel_rfl) (by kernel_rfl) h
abbrev pIsPattern.Ret (args : List AV) (r : AV) (frs : Fr) : Prop := Abs.Ret true Tryz.prog 44 args r frs
def sIsBinding.code : ACode := (.seq (.region false [s 2 (.mv (.const (.bool false)))]) (.seq (.seq (.region false [s 3 (.mv (.const (.int .i64 0)))]) (.block 0 (.loop (.seq (.seq (.region false [s 4 (.mv (t 3)), s 5 (.mv (t 0)), s 6 (.len false (t 5)), s 7 (.bin .lss (t 4) (t 6))]) (.cond (t 7) .skip (.exit 0))) (.seq (.block 1 (.seq (.region true [s 10 (.mv (t 0)), s 11 (.mv (t 3)), s 12 (.iadr 2 (t 10) (t 11)), s 13 (.fadr 0 (t 12)), s 14 (.load false 1 (t 13)), s 15 (.call 35 [(t 14)]), s 16 (.not (t 15)), s 17 (.mv (t 16)), g 17 false 18 (.mv (t 0)), g 17 false 19 (.mv (t 3)), g 17 false 20 (.iadr 2 (t 18) (t 19)), g 17 false 21 (.fadr 1 (t 20)), g 17 false 22 (.load false 1 (t 21)), g 17 false 23 (.call 36 [(t 22)]), g 17 false 24 (.not (t 23)), s 25 (.or (t 17) (t 24)), s 26 (.mv (t 25)), g 26 false 27 (.mv (t 3)), g 26 false 28 (.bin .gtr (t 27) (.const (.int .i64 0))), g 26 false 29 (.mv (t 28)), g 29 true 30 (.mv (t 0)), g 29 true 31 (.mv (t 3)), g 29 true 32 (.bin .sub (t 31) (.const (.int .i64 1))), g 29 true 33 (.iadr 2 (t 30) (t 32)), g 29 true 34 (.fadr 0 (t 33)), g 29 true 35 (.load false 1 (t 34)), g 29 true 36 (.mv (t 0)), g 29 true 37 (.mv (t 3)), g 29 true 38 (.iadr 2 (t 36) (t 37)), g 29 true 39 (.fadr 0 (t 38)), g 29 true 40 (.load false 1 (t 39)), g 29 true 41 (.bin .geq (t 35) (t 40)), g 26 false 42 (.and (t 29) (t 41)), s 43 (.or (t 26) (t 42))]) (.cond (t 43) (.seq (.region false [s 2 (.mv (.const (.bool false)))]) .ret) .skip))) (.region false [s 8 (.mv (t 3)), s 9 (.bin .add (t 8) (.const (.int .i64 1))), s 3 (.mv (t 9))])))))) (.seq (.region false [s 44 (.mv (t 0)), s 45 (.len false (t 44)), s 46 (.bin .leq (t 45) (.const (.int .i64 6))), s 2 (.mv (t 46))]) .ret)))
def sIsBinding.keep : List Nat := [0, 2, 3]
def sIsBinding.res : List RRes := [.tmp 2]
theorem sIsBinding.of {mo : Bool} {args : List AV} {r : AV} {frs : Fr} (hn : Nat.ble args.length Tryz.f19.ntmps = true) (h : aCode (Kn mo Tryz.prog) sIsBinding.keep 0 sIsBinding.code (doneK sIsBinding.res r frs) ⟨argEnv 0 args, [], []⟩) : Abs.Ret mo Tryz.prog 19 args r frs :=
  Abs.Ret.of_ir Tryz.func19 rfl (by kernel_rfl) (Nat.le_of_ble_eq_true hn) (by kernel_rfl) (by kernel_rfl) h
abbrev sIsBinding.Ret (args : List AV) (r : AV) (frs : Fr) : Prop := Abs.Ret true Tryz.prog 19 args r frs
def pIsBinding.code : ACode := (.seq (.region false [s 2 (.mv (.const (.bool false)))]) (.seq (.seq (.region false [s 5 (.mv (t 0)), s 6 (.len false (t 5)), s 7 (.bin .gtr (t 6) (.const (.int .i64 6)))]) (.cond (t 7) (.seq (.region false [s 2 (.mv (.const (.bool false)))]) .ret) .skip)) (.seq (.seq (.region false [s 8 (.mv (t 0)), s 9 (.len false (t 8)), s 10 (.mv (.const (.int .i64 0)))]) (.block 0 (.loop (.seq (.region false [s 11 (.bin .lss (t 10) (t 9))]) (.seq (.cond (t 11) .skip (.exit 0)) (.seq (.block 1 (.seq (.region false [s 12 (.mv (t 10)), s 13 (.iadr 2 (t 8) (t 10)), s 14 (.load true 2 (t 13)), s 4 (.alloc [(.string (.mk (.mk []))), (.string (.mk (.mk [])))]), s 3 (.mv (t 12)), ⟨none, none, (.store 2 (t 4) (t 14))⟩]) (.seq (.region true [s 15 (.fadr 0 (t 4)), s 16 (.load false 1 (t 15)), s 17 (.call 46 [(t 16)]), s 18 (.not (t 17)), s 19 (.mv (t 18)), g 19 false 20 (.fadr 1 (t 4)), g 19 false 21 (.load false 1 (t 20)), g 19 false 22 (.call 47 [(t 21)]), g 19 false 23 (.not (t 22)), s 24 (.or (t 19) (t 23)), s 25 (.mv (t 24)), g 25 false 26 (.mv (t 3)), g 25 false 27 (.bin .gtr (t 26) (.const (.int .i64 0))), g 25 false 28 (.mv (t 27)), g 28 true 29 (.mv (t 0)), g 28 true 30 (.mv (t 3)), g 28 true 31 (.bin .sub (t 30) (.const (.int .i64 1))), g 28 true 32 (.iadr 2 (t 29) (t 31)), g 28 true 33 (.fadr 0 (t 32)), g 28 true 34 (.load false 1 (t 33)), g 28 true 35 (.fadr 0 (t 4)), g 28 true 36 (.load false 1 (t 35)), g 28 true 37 (.bin .geq (t 34) (t 36)), g 25 false 38 (.and (t 28) (t 37)), s 39 (.or (t 25) (t 38))]) (.cond (t 39) (.seq (.region false [s 2 (.mv (.const (.bool false)))]) .ret) .skip)))) (.region false [s 40 (.bin .add (t 10) (.const (.int .i64 1))), s 10 (.mv (t 40))]))))))) (.seq (.region false [s 2 (.mv (.const (.bool true)))]) .ret))))
def pIsBinding.keep : List Nat := [0, 2, 3, 4, 8, 9, 10, 11]
def pIsBinding.res : List RRes := [.tmp 2]
theorem pIsBinding.of {mo : Bool} {args : List AV} {r : AV} {frs : Fr} (hn : Nat.ble args.length Tryz.f26.ntmps = true) (h : aCode (Kn mo Tryz.prog) pIsBinding.keep 0 pIsBinding.code (doneK pIsBinding.res r frs) ⟨argEnv 0 args, [], []⟩) : Abs.Ret mo Tryz.prog 26 args r frs :=
  Abs.Ret.of_ir Tryz.func26 rfl (by kernel_rfl) (Nat.le_of_ble_eq_true hn) (by kernel_rfl) (by kernel_rfl) h
abbrev pIsBinding.Ret (args : List AV) (r : AV) (frs : Fr) : Prop := Abs.Ret true Tryz.prog 26 args r frs
def sValueOf.code : ACode := (.seq (.region false [s 4 (.mv (.const (.string (.mk #[])))), s 5 (.mv (.const (.bool false)))]) (.seq (.seq (.region false [s 7 (.mv (t 1)), s 8 (.call 36 [(t 7)])]) (.cond (t 8) (.seq (.region false [s 9 (.mv (t 1)), s 4 (.mv (t 9)), s 5 (.mv (.const (.bool true)))]) .ret) .skip)) (.seq (.seq (.region false [s 6 (.mv (.const (.int .i64 0)))]) (.block 0 (.loop (.seq (.seq (.region false [s 10 (.mv (t 6)), s 11 (.mv (t 0)), s 12 (.len false (t 11)), s 13 (.bin .lss (t 10) (t 12))]) (.cond (t 13) .skip (.exit 0))) (.seq (.block 1 (.seq (.region false [s 16 (.mv (t 0)), s 17 (.mv (t 6)), s 18 (.iadr 2 (t 16) (t 17)), s 19 (.fadr 0 (t 18)), s 20 (.load false 1 (t 19)), s 21 (.mv (t 1)), s 22 (.bin .eql (t 20) (t 21)), s 23 (.mv (t 22)), g 23 true 24 (.mv (t 1)), g 23 true 25 (.call 35 [(t 24)]), s 26 (.and (t 23) (t 25))]) (.cond (t 26) (.seq (.region false [s 27 (.mv (t 0)), s 28 (.mv (t 6)), s 29 (.iadr 2 (t 27) (t 28)), s 30 (.fadr 1 (t 29)), s 31 (.load false 1 (t 30)), s 4 (.mv (t 31)), s 5 (.mv (.const (.bool true)))]) .ret) .skip))) (.region false [s 14 (.mv (t 6)), s 15 (.bin .add (t 14) (.const (.int .i64 1))), s 6 (.mv (t 15))])))))) (.seq (.region false [s 4 (.mv (.const (.string (.mk #[])))), s 5 (.mv (.const (.bool false)))]) .ret))))
def sValueOf.keep : List Nat := [0, 1, 4, 5, 6]
def sValueOf.res : List RRes := [.tmp 4, .tmp 5]
theorem sValueOf.ofS {mo : Bool} {args : List AV} {r : AV} (hr : isScalR r = true) (hn : Nat.ble args.length Tryz.f40.ntmps = true) (h : aCode (Kn mo Tryz.prog) sValueOf.keep 0 sValueOf.code (doneS sValueOf.res r) ⟨argEnv 0 args, [], []⟩) : Abs.Ret mo Tryz.prog 40 args r [] :=
  Abs.Ret.of_irS hr Tryz.func40 rfl (by kernel_rfl) (Nat.le_of_ble_eq_true hn) (by kernel_rfl) (by kernel_rfl) h
abbrev sValueOf.Ret (args : List AV) (r : AV) (frs : Fr) : Prop := Abs.Ret true Tryz.prog 40 args r frs
def pValueOf.code : ACode := (.seq (.region false [s 4 (.mv (.const (.string (.mk #[])))), s 5 (.mv (.const (.bool false)))]) (.seq (.seq (.region false [s 8 (.mv (t 1)), s 9 (.call 47 [(t 8)])]) (.cond (t 9) (.seq (.region false [s 10 (.mv (t 1)), s 4 (.mv (t 10)), s 5 (.mv (.const (.bool true)))]) .ret) .skip)) (.seq (.seq (.region false [s 11 (.mv (t 1)), s 12 (.call 46 [(t 11)]), s 13 (.not (t 12))]) (.cond (t 13) (.seq (.region false [s 4 (.mv (.const (.string (.mk #[])))), s 5 (.mv (.const (.bool false)))]) .ret) .skip)) (.seq (.seq (.region false [s 14 (.mv (t 0)), s 15 (.len false (t 14)), s 16 (.mv (.const (.int .i64 0)))]) (.block 0 (.loop (.seq (.region false [s 17 (.bin .lss (t 16) (t 15))]) (.seq (.cond (t 17) .skip (.exit 0)) (.seq (.block 1 (.seq (.region false [s 18 (.iadr 2 (t 14) (t 16)), s 19 (.load true 2 (t 18)), s 7 (.alloc [(.string (.mk (.mk []))), (.string (.mk (.mk [])))]), ⟨none, none, (.store 2 (t 7) (t 19))⟩]) (.seq (.region false [s 20 (.fadr 0 (t 7)), s 21 (.load false 1 (t 20)), s 22 (.mv (t 1)), s 23 (.bin .eql (t 21) (t 22))]) (.cond (t 23) (.seq (.region false [s 24 (.fadr 1 (t 7)), s 25 (.load false 1 (t 24)), s 4 (.mv (t 25)), s 5 (.mv (.const (.bool true)))]) .ret) .skip)))) (.region false [s 26 (.bin .add (t 16) (.const (.int .i64 1))), s 16 (.mv (t 26))]))))))) (.seq (.region false [s 4 (.mv (.const (.string (.mk #[])))), s 5 (.mv (.const (.bool false)))]) .ret)))))
def pValueOf.keep : List Nat := [0, 1, 4, 5, 7, 14, 15, 16, 17]
def pValueOf.res : List RRes := [.tmp 4, .tmp 5]
theorem pValueOf.ofS {mo : Bool} {args : List AV} {r : AV} (hr : isScalR r = true) (hn : Nat.ble args.length Tryz.f50.ntmps = true) (h : aCode (Kn mo Tryz.prog) pValueOf.keep 0 pValueOf.code (doneS pValueOf.res r) ⟨argEnv 0 args, [], []⟩) : Abs.Ret mo Tryz.prog 50 args r [] :=
  Abs.Ret.of_irS hr Tryz.func50 rfl (by kernel_rfl) (Nat.le_of_ble_eq_true hn) (by kernel_rfl) (by kernel_rfl) h
abbrev pValueOf.Ret (args : List AV) (r : AV) (frs : Fr) : Prop := Abs.Ret true Tryz.prog 50 args r frs
def sExtend.code : ACode := (.seq (.region false [s 6 (.mv (.const (.slice none 0 0))), s 7 (.mv (.const (.bool false)))]) (.seq (.seq (.region false [s 10 (.mv (t 0)), s 11 (.call 19 [(t 10)]), s 12 (.not (t 11)), s 13 (.mv (t 12)), g 13 false 14 (.mv (t 1)), g 13 false 15 (.call 35 [(t 14)]), g 13 false 16 (.not (t 15)), s 17 (.or (t 13) (t 16)), s 18 (.mv (t 17)), g 18 false 19 (.mv (t 2)), g 18 false 20 (.call 36 [(t 19)]), g 18 false 21 (.not (t 20)), s 22 (.or (t 18) (t 21))]) (.cond (t 22) (.seq (.region false [s 23 (.bslice 56 2 true []), s 6 (.mv (t 23)), s 7 (.mv (.const (.bool false)))]) .ret) .skip)) (.seq (.region false [s 25 (.mv (t 0)), s 26 (.mv (t 1)), s 27 (.call 40 [(t 25), (t 26)]), s 24 (.mv (t 27)), s 28 (.extract (t 24) 0), s 29 (.extract (t 24) 1), s 8 (.mv (t 28)), s 9 (.mv (t 29))]) (.seq (.seq (.region false [s 30 (.mv (t 9)), s 31 (.mv (t 30)), g 31 true 32 (.mv (t 8)), g 31 true 33 (.mv (t 2)), g 31 true 34 (.bin .eql (t 32) (t 33)), s 35 (.and (t 31) (t 34))]) (.cond (t 35) (.seq (.region false [s 36 (.mv (t 0)), s 37 (.call 56 [(t 36)]), s 6 (.mv (t 37)), s 7 (.mv (.const (.bool true)))]) .ret) .skip)) (.seq (.seq (.region false [s 38 (.mv (t 9)), s 39 (.mv (t 38)), g 39 false 40 (.mv (t 0)), g 39 false 41 (.len false (t 40)), g 39 false 42 (.bin .eql (t 41) (.const (.int .i64 6))), s 43 (.or (t 39) (t 42))]) (.cond (t 43) (.seq (.region false [s 44 (.bslice 56 2 true []), s 6 (.mv (t 44)), s 7 (.mv (.const (.bool false)))]) .ret) .skip)) (.seq (.region false [s 45 (.mv (t 0)), s 46 (.mv (t 1)), s 47 (.mv (t 2)), s 48 (.call 73 [(t 45), (t 46), (t 47)]), s 6 (.mv (t 48)), s 7 (.mv (.const (.bool true)))]) .ret))))))
def sExtend.keep : List Nat := [0, 1, 2, 6, 7, 8, 9]
def sExtend.res : List RRes := [.tmp 6, .tmp 7]
theorem sExtend.of {mo : Bool} {args : List AV} {r : AV} {frs : Fr} (hn : Nat.ble args.length Tryz.f57.ntmps = true) (h : aCode (Kn mo Tryz.prog) sExtend.keep 0 sExtend.code (doneK sExtend.res r frs) ⟨argEnv 0 args, [], []⟩) : Abs.Ret mo Tryz.prog 57 args r frs :=
  Abs.Ret.of_ir Tryz.func57 rfl (by kernel_rfl) (Nat.le_of_ble_eq_true hn) (by kernel_rfl) (by kernel_rfl) h
abbrev sExtend.Ret (args : List AV) (r : AV) (frs : Fr) : Prop := Abs.Ret true Tryz.prog 57 args r frs
def pSamePattern.code : ACode := (.seq (.region false [s 2 (.box (t 0)), s 3 (.box (t 1)), s 4 (.mv (.const (.bool false)))]) (.seq (.region false [s 5 (.fadr 0 (t 2)), s 6 (.load false 1 (t 5)), s 7 (.fadr 0 (t 3)), s 8 (.load false 1 (t 7)), s 9 (.bin .eql (t 6) (t 8)), s 10 (.mv (t 9)), g 10 true 11 (.fadr 1 (t 2)), g 10 true 12 (.load false 1 (t 11)), g 10 true 13 (.fadr 1 (t 3)), g 10 true 14 (.load false 1 (t 13)), g 10 true 15 (.call 76 [(t 12), (t 14)]), s 16 (.and (t 10) (t 15)), s 4 (.mv (t 16))]) .ret))
def pSamePattern.keep : List Nat := [0, 1, 2, 3, 4]
def pSamePattern.res : List RRes := [.tmp 4]
theorem pSamePattern.of {mo : Bool} {args : List AV} {r : AV} {frs : Fr} (hn : Nat.ble args.length Tryz.f63.ntmps = true) (h : aCode (Kn mo Tryz.prog) pSamePattern.keep 0 pSamePattern.code (doneK pSamePattern.res r frs) ⟨argEnv 0 args, [], []⟩) : Abs.Ret mo Tryz.prog 63 args r frs :=
  Abs.Ret.of_ir Tryz.func63 rfl (by kernel_rfl) (Nat.le_of_ble_eq_true hn) (by kernel_rfl) (by kernel_rfl) h
abbrev pSamePattern.Ret (args : List AV) (r : AV) (frs : Fr) : Prop := Abs.Ret true Tryz.prog 63 args r frs
def sMatchFact.code : ACode := (.seq (.region false [s 3 (.box (t 0)), s 4 (.box (t 1)), s 6 (.mv (.const (.slice none 0 0))), s 7 (.mv (.const (.bool false)))]) (.seq (.seq (.region false [s 12 (.load true 2 (t 3)), s 13 (.call 33 [(t 12)]), s 14 (.not (t 13)), s 15 (.mv (t 14)), g 15 false 16 (.load true 2 (t 4)), g 15 false 17 (.call 55 [(t 16)]), g 15 false 18 (.not (t 17)), s 19 (.or (t 15) (t 18)), s 20 (.mv (t 19)), g 20 false 21 (.mv (t 2)), g 20 false 22 (.call 19 [(t 21)]), g 20 false 23 (.not (t 22)), s 24 (.or (t 20) (t 23)), s 25 (.mv (t 24)), g 25 false 26 (.fadr 0 (t 3)), g 25 false 27 (.load false 1 (t 26)), g 25 false 28 (.fadr 0 (t 4)), g 25 false 29 (.load false 1 (t 28)), g 25 false 30 (.bin .neq (t 27) (t 29)), s 31 (.or (t 25) (t 30)), s 32 (.mv (t 31)), g 32 false 33 (.fadr 1 (t 3)), g 32 false 34 (.load false 1 (t 33)), g 32 false 35 (.len false (t 34)), g 32 false 36 (.fadr 1 (t 4)), g 32 false 37 (.load false 1 (t 36)), g 32 false 38 (.len false (t 37)), g 32 false 39 (.bin .neq (t 35) (t 38)), s 40 (.or (t 32) (t 39))]) (.cond (t 40) (.seq (.region false [s 41 (.bslice 56 2 true []), s 6 (.mv (t 41)), s 7 (.mv (.const (.bool false)))]) .ret) .skip)) (.seq (.region false [s 42 (.mv (t 2)), s 43 (.call 56 [(t 42)]), s 8 (.mv (t 43))]) (.seq (.seq (.region false [s 9 (.mv (.const (.int .i64 0)))]) (.block 0 (.loop (.seq (.seq (.region false [s 44 (.mv (t 9)), s 45 (.fadr 1 (t 3)), s 46 (.load false 1 (t 45)), s 47 (.len false (t 46)), s 48 (.bin .lss (t 44) (t 47))]) (.cond (t 48) .skip (.exit 0))) (.seq (.block 1 (.seq (.seq (.region false [s 51 (.fadr 1 (t 3)), s 52 (.load false 1 (t 51)), s 53 (.mv (t 9)), s 54 (.iadr 1 (t 52) (t 53)), s 55 (.load false 1 (t 54)), s 56 (.call 36 [(t 55)])]) (.cond (t 56) (.seq (.seq (.region true [s 57 (.fadr 1 (t 3)), s 58 (.load false 1 (t 57)), s 59 (.mv (t 9)), s 60 (.iadr 1 (t 58) (t 59)), s 61 (.load false 1 (t 60)), s 62 (.fadr 1 (t 4)), s 63 (.load false 1 (t 62)), s 64 (.mv (t 9)), s 65 (.iadr 1 (t 63) (t 64)), s 66 (.load false 1 (t 65)), s 67 (.bin .neq (t 61) (t 66))]) (.cond (t 67) (.seq (.region false [s 68 (.bslice 56 2 true []), s 6 (.mv (t 68)), s 7 (.mv (.const (.bool false)))]) .ret) .skip)) (.exit 1)) .skip)) (.seq (.held [s 70 (.mv (t 8)), s 71 (.fadr 1 (t 3)), s 72 (.load false 1 (t 71)), s 73 (.mv (t 9)), s 74 (.iadr 1 (t 72) (t 73)), s 75 (.load false 1 (t 74)), s 76 (.fadr 1 (t 4)), s 77 (.load false 1 (t 76)), s 78 (.mv (t 9)), s 79 (.iadr 1 (t 77) (t 78)), s 80 (.load false 1 (t 79)), s 81 (.call 57 [(t 70), (t 75), (t 80)]), s 69 (.mv (t 81)), s 82 (.extract (t 69) 0), s 83 (.extract (t 69) 1), s 10 (.mv (t 82))] [s 11 (.mv (t 83))]) (.seq (.seq (.region false [s 84 (.mv (t 11)), s 85 (.not (t 84))]) (.cond (t 85) (.seq (.region false [s 86 (.bslice 56 2 true []), s 6 (.mv (t 86)), s 7 (.mv (.const (.bool false)))]) .ret) .skip)) (.region false [s 87 (.mv (t 10)), s 8 (.mv (t 87))]))))) (.region false [s 49 (.mv (t 9)), s 50 (.bin .add (t 49) (.const (.int .i64 1))), s 9 (.mv (t 50))])))))) (.seq (.region false [s 88 (.mv (t 8)), s 6 (.mv (t 88)), s 7 (.mv (.const (.bool true)))]) .ret)))))
def sMatchFact.keep : List Nat := [0, 1, 2, 3, 4, 6, 7, 8, 9, 10, 11]
def sMatchFact.res : List RRes := [.tmp 6, .tmp 7]
abbrev sMatchFact.Own (args : List AV) (x : Tr) : Prop := Abs.Own true Tryz.prog 37 args x
def pMatchFact.code : ACode := (.seq (.region false [s 3 (.box (t 0)), s 4 (.box (t 1)), s 6 (.mv (.const (.slice none 0 0))), s 7 (.mv (.const (.bool false)))]) (.seq (.seq (.region false [s 9 (.fadr 0 (t 3)), s 10 (.load false 1 (t 9)), s 11 (.fadr 0 (t 4)), s 12 (.load false 1 (t 11)), s 13 (.bin .neq (t 10) (t 12)), s 14 (.mv (t 13)), g 14 false 15 (.load true 2 (t 3)), g 14 false 16 (.call 44 [(t 15)]), g 14 false 17 (.not (t 16)), s 18 (.or (t 14) (t 17)), s 19 (.mv (t 18)), g 19 false 20 (.load true 2 (t 4)), g 19 false 21 (.call 67 [(t 20)]), g 19 false 22 (.not (t 21)), s 23 (.or (t 19) (t 22)), s 24 (.mv (t 23)), g 24 false 25 (.mv (t 2)), g 24 false 26 (.call 26 [(t 25)]), g 24 false 27 (.not (t 26)), s 28 (.or (t 24) (t 27))]) (.cond (t 28) (.seq (.region false [s 29 (.bslice 56 2 true []), s 6 (.mv (t 29)), s 7 (.mv (.const (.bool false)))]) .ret) .skip)) (.seq (.region false [s 30 (.mv (t 2)), s 31 (.call 68 [(t 30)]), s 8 (.mv (t 31))]) (.seq (.seq (.region false [s 32 (.fadr 1 (t 3)), s 33 (.load false 1 (t 32)), s 34 (.fadr 1 (t 4)), s 35 (.load false 1 (t 34)), s 36 (.mv (t 8)), s 37 (.call 69 [(t 33), (t 35), (t 36)]), s 38 (.not (t 37)), s 39 (.mv (t 38)), g 39 false 40 (.mv (t 8)), g 39 false 41 (.mlen (t 40)), g 39 false 42 (.bin .gtr (t 41) (.const (.int .i64 6))), s 43 (.or (t 39) (t 42))]) (.cond (t 43) (.seq (.region false [s 44 (.bslice 56 2 true []), s 6 (.mv (t 44)), s 7 (.mv (.const (.bool false)))]) .ret) .skip)) (.seq (.region false [s 45 (.mv (t 8)), s 46 (.call 70 [(t 45)]), s 6 (.mv (t 46)), s 7 (.mv (.const (.bool true)))]) .ret)))))
def pMatchFact.keep : List Nat := [0, 1, 2, 3, 4, 6, 7, 8]
def pMatchFact.res : List RRes := [.tmp 6, .tmp 7]
def sCopyB.code : ACode := (.seq (.region false [s 2 (.mv (.const (.slice none 0 0)))]) (.seq (.region false [s 3 (.bslice 56 2 true []), s 4 (.mv (t 0)), s 5 (.append 56 2 32 (t 3) (t 4)), s 2 (.mv (t 5))]) .ret))
def sCopyB.keep : List Nat := [0, 2]
def sCopyB.res : List RRes := [.tmp 2]
theorem sCopyB.of {mo : Bool} {args : List AV} {r : AV} {frs : Fr} (hn : Nat.ble args.length Tryz.f56.ntmps = true) (h : aCode (Kn mo Tryz.prog) sCopyB.keep 0 sCopyB.code (doneK sCopyB.res r frs) ⟨argEnv 0 args, [], []⟩) : Abs.Ret mo Tryz.prog 56 args r frs :=
  Abs.Ret.of_ir Tryz.func56 rfl (by kernel_rfl) (Nat.le_of_ble_eq_true hn) (by kernel_rfl) (by kernel_rfl) h
abbrev sCopyB.Ret (args : List AV) (r : AV) (frs : Fr) : Prop := Abs.Ret true Tryz.prog 56 args r frs
def sSet.code : ACode := (.seq (.region false [s 6 (.mv (.const (.slice none 0 0)))]) (.seq (.region false [s 10 (.bslice 56 2 true []), s 7 (.mv (t 10))]) (.seq (.region false [s 8 (.mv (.const (.bool false)))]) (.seq (.seq (.region false [s 9 (.mv (.const (.int .i64 0)))]) (.block 0 (.loop (.seq (.seq (.region false [s 11 (.mv (t 9)), s 12 (.mv (t 0)), s 13 (.len false (t 12)), s 14 (.bin .lss (t 11) (t 13))]) (.cond (t 14) .skip (.exit 0))) (.seq (.block 1 (.seq (.seq (.region false [s 17 (.mv (t 8)), s 18 (.not (t 17)), s 19 (.mv (t 18)), g 19 true 20 (.mv (t 0)), g 19 true 21 (.mv (t 9)), g 19 true 22 (.iadr 2 (t 20) (t 21)), g 19 true 23 (.fadr 0 (t 22)), g 19 true 24 (.load false 1 (t 23)), g 19 true 25 (.mv (t 1)), g 19 true 26 (.bin .gtr (t 24) (t 25)), s 27 (.and (t 19) (t 26))]) (.cond (t 27) (.seq (.region false [s 28 (.mv (t 7)), s 29 (.mv (t 1)), s 30 (.mv (t 2)), s 31 (.build [(.string (.mk (.mk []))), (.string (.mk (.mk [])))] [(0, 1), (1, 1)] [(t 29), (t 30)]), s 32 (.bslice 56 2 false [(t 31)]), s 33 (.append 56 2 32 (t 28) (t 32)), s 7 (.mv (t 33))]) (.region false [s 8 (.mv (.const (.bool true)))])) .skip)) (.region false [s 34 (.mv (t 7)), s 35 (.mv (t 0)), s 36 (.mv (t 9)), s 37 (.iadr 2 (t 35) (t 36)), s 38 (.load true 2 (t 37)), s 39 (.bslice 56 2 false [(t 38)]), s 40 (.append 56 2 32 (t 34) (t 39)), s 7 (.mv (t 40))]))) (.region false [s 15 (.mv (t 9)), s 16 (.bin .add (t 15) (.const (.int .i64 1))), s 9 (.mv (t 16))])))))) (.seq (.seq (.region false [s 41 (.mv (t 8)), s 42 (.not (t 41))]) (.cond (t 42) (.region false [s 43 (.mv (t 7)), s 44 (.mv (t 1)), s 45 (.mv (t 2)), s 46 (.build [(.string (.mk (.mk []))), (.string (.mk (.mk [])))] [(0, 1), (1, 1)] [(t 44), (t 45)]), s 47 (.bslice 56 2 false [(t 46)]), s 48 (.append 56 2 32 (t 43) (t 47)), s 7 (.mv (t 48))]) .skip)) (.seq (.region false [s 49 (.mv (t 7)), s 6 (.mv (t 49))]) .ret))))))
def sSet.keep : List Nat := [0, 1, 2, 6, 7, 8, 9]
def sSet.res : List RRes := [.tmp 6]
theorem sSet.of {mo : Bool} {args : List AV} {r : AV} {frs : Fr} (hn : Nat.ble args.length Tryz.f73.ntmps = true) (h : aCode (Kn mo Tryz.prog) sSet.keep 0 sSet.code (doneK sSet.res r frs) ⟨argEnv 0 args, [], []⟩) : Abs.Ret mo Tryz.prog 73 args r frs :=
  Abs.Ret.of_ir Tryz.func73 rfl (by kernel_rfl) (Nat.le_of_ble_eq_true hn) (by kernel_rfl) (by kernel_rfl) h
abbrev sSet.Ret (args : List AV) (r : AV) (frs : Fr) : Prop := Abs.Ret true Tryz.prog 73 args r frs
def pisTuple.code : ACode := (.seq (.region false [s 6 (.mv (.const (.bool false)))]) (.seq (.seq (.region false [s 9 (.mv (t 0)), s 10 (.call 75 [(t 9)]), s 11 (.not (t 10)), s 12 (.mv (t 11)), g 12 false 13 (.mv (t 1)), g 12 false 14 (.len false (t 13)), g 12 false 15 (.bin .gtr (t 14) (.const (.int .i64 3))), s 16 (.or (t 12) (t 15))]) (.cond (t 16) (.seq (.region false [s 6 (.mv (.const (.bool false)))]) .ret) .skip)) (.seq (.seq (.region false [s 17 (.mv (t 1)), s 18 (.len false (t 17)), s 19 (.mv (.const (.int .i64 0)))]) (.block 0 (.loop (.seq (.region false [s 20 (.bin .lss (t 19) (t 18))]) (.seq (.cond (t 20) .skip (.exit 0)) (.seq (.block 1 (.seq (.region false [s 21 (.iadr 1 (t 17) (t 19)), s 22 (.load false 1 (t 21)), s 8 (.mv (t 22))]) (.seq (.region false [s 23 (.mv (t 2)), s 24 (.mv (t 8)), s 25 (.callv (t 23) [(t 24)]), s 26 (.not (t 25))]) (.cond (t 26) (.seq (.region false [s 6 (.mv (.const (.bool false)))]) .ret) .skip)))) (.region false [s 27 (.bin .add (t 19) (.const (.int .i64 1))), s 19 (.mv (t 27))]))))))) (.seq (.region false [s 6 (.mv (.const (.bool true)))]) .ret))))
def pisTuple.keep : List Nat := [0, 1, 2, 6, 8, 17, 18, 19, 20]
def pisTuple.res : List RRes := [.tmp 6]
theorem pisTuple.of {mo : Bool} {args : List AV} {r : AV} {frs : Fr} (hn : Nat.ble args.length Tryz.f61.ntmps = true) (h : aCode (Kn mo Tryz.prog) pisTuple.keep 0 pisTuple.code (doneK pisTuple.res r frs) ⟨argEnv 0 args, [], []⟩) : Abs.Ret mo Tryz.prog 61 args r frs :=
  Abs.Ret.of_ir Tryz.func61 rfl (by kernel_rfl) (Nat.le_of_ble_eq_true hn) (by kernel_rfl) (by kernel_rfl) h
abbrev pisTuple.Ret (args : List AV) (r : AV) (frs : Fr) : Prop := Abs.Ret true Tryz.prog 61 args r frs
def pmapOfPairs.code : ACode := (.seq (.region false [s 2 (.mv (.const (.map none)))]) (.seq (.region false [s 6 .mmap, s 3 (.mv (t 6))]) (.seq (.seq (.region false [s 7 (.mv (t 0)), s 8 (.len false (t 7)), s 9 (.mv (.const (.int .i64 0)))]) (.block 0 (.loop (.seq (.region false [s 10 (.bin .lss (t 9) (t 8))]) (.seq (.cond (t 10) .skip (.exit 0)) (.seq (.block 1 (.seq (.region false [s 11 (.iadr 2 (t 7) (t 9)), s 12 (.load true 2 (t 11)), s 5 (.alloc [(.string (.mk (.mk []))), (.string (.mk (.mk [])))]), ⟨none, none, (.store 2 (t 5) (t 12))⟩]) (.region false [s 13 (.mv (t 3)), s 14 (.fadr 0 (t 5)), s 15 (.load false 1 (t 14)), s 16 (.fadr 1 (t 5)), s 17 (.load false 1 (t 16)), ⟨none, none, (.mput (t 13) (t 15) (t 17))⟩]))) (.region false [s 18 (.bin .add (t 9) (.const (.int .i64 1))), s 9 (.mv (t 18))]))))))) (.seq (.region false [s 19 (.mv (t 3)), s 2 (.mv (t 19))]) .ret))))
def pmapOfPairs.keep : List Nat := [0, 2, 3, 5, 7, 8, 9, 10]
def pmapOfPairs.res : List RRes := [.tmp 2]
theorem pmapOfPairs.ofL {mo : Bool} {b0 : List ABox} {args : List AV} {Φ : AV → List ABox → Fr → Prop} (hd : noDead b0 = true) (hn : Nat.ble args.length Tryz.f68.ntmps = true) (h : aCode (Kn mo Tryz.prog) pmapOfPairs.keep b0.length pmapOfPairs.code (doneL pmapOfPairs.res Φ) ⟨argEnv 0 args, b0, []⟩) : Abs.Lent mo Tryz.prog 68 b0 args Φ :=
  Abs.Lent.of_ir hd Tryz.func68 rfl (by kernel_rfl) (Nat.le_of_ble_eq_true hn) (by kernel_rfl) (by kernel_rfl) h
abbrev pmapOfPairs.Lent (b0 : List ABox) (args : List AV) (Φ : AV → List ABox → Fr → Prop) : Prop := Abs.Lent true Tryz.prog 68 b0 args Φ
def pturnInto.code : ACode := (.seq (.region false [s 6 (.mv (.const (.bool false)))]) (.seq (.seq (.region false [s 11 (.mv (t 0)), s 12 (.len false (t 11)), s 13 (.mv (t 1)), s 14 (.len false (t 13)), s 15 (.bin .neq (t 12) (t 14))]) (.cond (t 15) (.seq (.region false [s 6 (.mv (.const (.bool false)))]) .ret) .skip)) (.seq (.seq (.region false [s 16 (.mv (t 0)), s 17 (.len false (t 16)), s 18 (.mv (.const (.int .i64 0)))]) (.block 0 (.loop (.seq (.region false [s 19 (.bin .lss (t 18) (t 17))]) (.seq (.cond (t 19) .skip (.exit 0)) (.seq (.block 1 (.seq (.region false [s 20 (.mv (t 18)), s 21 (.iadr 1 (t 16) (t 18)), s 22 (.load false 1 (t 21)), s 7 (.mv (t 20)), s 8 (.mv (t 22))]) (.seq (.region false [s 24 (.mv (t 2)), s 25 (.mv (t 8)), s 26 (.lookup true (t 24) (t 25)), s 23 (.mv (t 26)), s 27 (.extract (t 23) 0), s 28 (.extract (t 23) 1), s 9 (.mv (t 27)), s 10 (.mv (t 28))]) (.seq (.block 2 (.seq (.region false [s 30 (.mv (t 8)), s 31 (.call 46 [(t 30)]), s 32 (.not (t 31)), s 29 (.mv (t 32))]) (.cond (t 29) (.region false [s 33 (.mv (t 8)), s 9 (.mv (t 33))]) (.seq (.region false [s 35 (.mv (t 10)), s 36 (.not (t 35)), s 34 (.mv (t 36))]) (.cond (t 34) (.seq (.region false [s 37 (.mv (t 1)), s 38 (.mv (t 7)), s 39 (.iadr 1 (t 37) (t 38)), s 40 (.load false 1 (t 39)), s 9 (.mv (t 40))]) (.region false [s 41 (.mv (t 2)), s 42 (.mv (t 8)), s 43 (.mv (t 9)), ⟨none, none, (.mput (t 41) (t 42) (t 43))⟩])) .skip))))) (.seq (.region false [s 44 (.mv (t 9)), s 45 (.mv (t 1)), s 46 (.mv (t 7)), s 47 (.iadr 1 (t 45) (t 46)), s 48 (.load false 1 (t 47)), s 49 (.bin .neq (t 44) (t 48))]) (.cond (t 49) (.seq (.region false [s 6 (.mv (.const (.bool false)))]) .ret) .skip)))))) (.region false [s 50 (.bin .add (t 18) (.const (.int .i64 1))), s 18 (.mv (t 50))]))))))) (.seq (.region false [s 6 (.mv (.const (.bool true)))]) .ret))))
def pturnInto.keep : List Nat := [0, 1, 2, 6, 7, 8, 9, 10, 16, 17, 18, 19]
def pturnInto.res : List RRes := [.tmp 6]
theorem pturnInto.ofL {mo : Bool} {b0 : List ABox} {args : List AV} {Φ : AV → List ABox → Fr → Prop} (hd : noDead b0 = true) (hn : Nat.ble args.length Tryz.f69.ntmps = true) (h : aCode (Kn mo Tryz.prog) pturnInto.keep b0.length pturnInto.code (doneL pturnInto.res Φ) ⟨argEnv 0 args, b0, []⟩) : Abs.Lent mo Tryz.prog 69 b0 args Φ :=
  Abs.Lent.of_ir hd Tryz.func69 rfl (by kernel_rfl) (Nat.le_of_ble_eq_true hn) (by kernel_rfl) (by kernel_rfl) h
abbrev pturnInto.Lent (b0 : List ABox) (args : List AV) (Φ : AV → List ABox → Fr → Prop) : Prop := Abs.Lent true Tryz.prog 69 b0 args Φ
def ppairsOfMap.code : ACode := (.seq (.region false [s 2 (.mv (.const (.slice none 0 0)))]) (.seq (.region false [s 6 (.bslice 56 2 true []), s 3 (.mv (t 6))]) (.seq (.seq (.region false [s 7 (.mv (t 0)), s 8 (.call 79 [(t 7)]), s 9 (.call 78 [(t 8)]), s 10 (.len false (t 9)), s 11 (.mv (.const (.int .i64 0)))]) (.block 0 (.loop (.seq (.region false [s 12 (.bin .lss (t 11) (t 10))]) (.seq (.cond (t 12) .skip (.exit 0)) (.seq (.block 1 (.seq (.region false [s 13 (.iadr 1 (t 9) (t 11)), s 14 (.load false 1 (t 13)), s 5 (.mv (t 14))]) (.region false [s 15 (.mv (t 3)), s 16 (.mv (t 5)), s 17 (.mv (t 0)), s 18 (.mv (t 5)), s 19 (.lookup false (t 17) (t 18)), s 20 (.build [(.string (.mk (.mk []))), (.string (.mk (.mk [])))] [(0, 1), (1, 1)] [(t 16), (t 19)]), s 21 (.bslice 56 2 false [(t 20)]), s 22 (.append 56 2 32 (t 15) (t 21)), s 3 (.mv (t 22))]))) (.region false [s 23 (.bin .add (t 11) (.const (.int .i64 1))), s 11 (.mv (t 23))]))))))) (.seq (.region false [s 24 (.mv (t 3)), s 2 (.mv (t 24))]) .ret))))
def ppairsOfMap.keep : List Nat := [0, 2, 3, 5, 9, 10, 11, 12]
def ppairsOfMap.res : List RRes := [.tmp 2]
theorem ppairsOfMap.ofL {mo : Bool} {b0 : List ABox} {args : List AV} {Φ : AV → List ABox → Fr → Prop} (hd : noDead b0 = true) (hn : Nat.ble args.length Tryz.f70.ntmps = true) (h : aCode (Kn mo Tryz.prog) ppairsOfMap.keep b0.length ppairsOfMap.code (doneL ppairsOfMap.res Φ) ⟨argEnv 0 args, b0, []⟩) : Abs.Lent mo Tryz.prog 70 b0 args Φ :=
  Abs.Lent.of_ir hd Tryz.func70 rfl (by kernel_rfl) (Nat.le_of_ble_eq_true hn) (by kernel_rfl) (by kernel_rfl) h
def slKeys.code : ACode := (.seq (.region false [s 1 (.box (t 0)), s 2 (.mv (.const .nilFunc))]) (.seq (.region false [s 3 (.clo 86 [] [(t 1)]), s 2 (.mv (t 3))]) .ret))
def slKeys.keep : List Nat := [0, 1, 2]
def slKeys.res : List RRes := [.tmp 2]
theorem slKeys.ofL {mo : Bool} {b0 : List ABox} {args : List AV} {Φ : AV → List ABox → Fr → Prop} (hd : noDead b0 = true) (hn : Nat.ble args.length Tryz.f79.ntmps = true) (h : aCode (Kn mo Tryz.prog) slKeys.keep b0.length slKeys.code (doneL slKeys.res Φ) ⟨argEnv 0 args, b0, []⟩) : Abs.Lent mo Tryz.prog 79 b0 args Φ :=
  Abs.Lent.of_ir hd Tryz.func79 rfl (by kernel_rfl) (Nat.le_of_ble_eq_true hn) (by kernel_rfl) (by kernel_rfl) h
abbrev slKeys.Lent (b0 : List ABox) (args : List AV) (Φ : AV → List ABox → Fr → Prop) : Prop := Abs.Lent true Tryz.prog 79 b0 args Φ
end Go.Proofs.YtfffboofmccfhaaGreat
namespace Go.Proofs.YtfffboofmccfhaaGreat
open Abs
def termF (x : Str) : Bool := atomF x || varF x
theorem allQ_no {q : Str → Bool} {x : List Str} {i : Nat} (hi : i < x.length) (h : q (x.getD i []) = false) : x.all q = false := by
  rw [List.all_eq_false]
  refine ⟨x.getD i [], ?_, by rw [h]; simp⟩
  simp [List.getD, hi]
theorem allQ_succ {q : Str → Bool} {x : List Str} {i : Nat} (hi : i < x.length) (h : (x.take i).all q = true) (hc : q (x.getD i []) = true) : (x.take (i + 1)).all q = true := by
  rw [take_succ' [] hi, List.all_append, h]; simpa using hc
def tupF (q : Str → Bool) (f : Fct) : Bool := nameF f.1 && decide ((f.2.length : Int) ≤ 3) && f.2.all q
abbrev isPatF (f : VPattern) : Bool := tupF termF f
theorem pisTuple.ret (q : Str → Bool) (F : Nat) (hq : ∀ s : Str, s.length ≤ 1048576 → Abs.Ret true Tryz.prog F [.str s] (.val (.bool (q s))) []) (r : Str) (l : List Str) (h : r.length + listSize Ty.str l ≤ 1048576) (hl : l.length ≤ 1048576) :
    pisTuple.Ret [.str r, .list none (strs l), .clo F [] []] (.val (.bool (tupF q (r, l)))) [] := by
  refine pisTuple.of rfl ?_
  repeat' first
    | contradiction | exact trivial
    | (conv => whnf
       first | refine Need.mk (fun h => h) ?_ | refine Need.mk rfl ?_ | refine Need.mk ⟨rfl, Nat.le_of_ble_eq_true rfl⟩ ?_ | refine Need.mk (Nat.le_of_ble_eq_true rfl) ?_ | refine Need.fin ?_ | refine Need.mk ?_ ?_ | refine Ix.strsF rfl ?_ | refine Ix.strs rfl ?_ ?_ | refine Cut.strs rfl ?_ ?_ | refine Ix.mapF (fun _ => rfl) ?_ | refine Ix.map (fun _ => rfl) ?_ ?_ | refine Cut.map (fun _ => rfl) ?_ ?_ | refine Fork.yes (by assumption) ?_ | refine Fork.no (by assumption) ?_ | refine Fork.decYes (by omega) ?_ | refine Fork.decNo (by omega) ?_ | refine Fork.dec (fun _ => ?_) (fun _ => ?_) | refine Fork.bne (fun _ => ?_) (fun _ => ?_) | refine Fork.beq (fun _ => ?_) (fun _ => ?_) | refine Fork.seq (fun _ => ?_) (fun _ => ?_) | refine Fork.sne (fun _ => ?_) (fun _ => ?_) | refine Fork.neg (fun _ => ?_) (fun _ => ?_) | refine Fork.mk (fun _ => ?_) (fun _ => ?_) | refine HAlt.mk ?_ ?_ | apply HJoin.mk3 | exact HEnd.mk rfl rfl rfl | refine HEnd.mk ?_ ?_ ?_ | refine Round.mk ?_ | refine NilQ.mk (fun b hb => ?_) | refine forceK_of ?_ | refine forceBx_of ?_ | refine unG_old ?_ | refine unG_gv ?_ | refine Lit.read rfl ?_ | refine FinVal.keep ?_ | refine FinAgg.keep ?_ | refine Final.mk rfl rfl | refine Final.mk ?_ rfl | refine Final.mk ?_ ?_ | refine FinalT.mk ?_ ?_ | refine FinalC.allA ?_ | refine ACall.scalA _ _ (pIsName.ret _ ?_) rfl ?_ | refine AQCall.mkA _ _ (fun hg => pIsName.ret _ ?_) rfl ?_)
    | refine AV.bool_congr ?_ | refine AV.int_congr ?_ | refine AV.str_congr ?_ | refine AV.list_congr ?_ | with_reducible rfl | refine fr1 ?_ | refine fr2 ?_ ?_
  · omega
  · rename_i h1
    simp only [length_strs] at h1
    unfold tupF
    cases hn : nameF r
    · simp
    · rw [hn] at h1
      have : ¬ (l.length : Int) ≤ 3 := by simp at h1; omega
      simp [this]
  rename_i h1
  simp only [length_strs] at h1
  have hn : nameF r = true := by revert h1; cases nameF r <;> simp
  have hl3 : (l.length : Int) ≤ 3 := by rw [hn] at h1; simp at h1; omega
  repeat' first
    | contradiction | exact trivial
    | (conv => whnf
       first | refine Need.mk (fun h => h) ?_ | refine Need.mk rfl ?_ | refine Need.mk ⟨rfl, Nat.le_of_ble_eq_true rfl⟩ ?_ | refine Need.mk (Nat.le_of_ble_eq_true rfl) ?_ | refine Need.fin ?_ | refine Need.mk ?_ ?_ | refine Ix.strsF rfl ?_ | refine Ix.strs rfl ?_ ?_ | refine Cut.strs rfl ?_ ?_ | refine Ix.mapF (fun _ => rfl) ?_ | refine Ix.map (fun _ => rfl) ?_ ?_ | refine Cut.map (fun _ => rfl) ?_ ?_ | refine Fork.yes (by assumption) ?_ | refine Fork.no (by assumption) ?_ | refine Fork.decYes (by omega) ?_ | refine Fork.decNo (by omega) ?_ | refine Fork.dec (fun _ => ?_) (fun _ => ?_) | refine Fork.bne (fun _ => ?_) (fun _ => ?_) | refine Fork.beq (fun _ => ?_) (fun _ => ?_) | refine Fork.seq (fun _ => ?_) (fun _ => ?_) | refine Fork.sne (fun _ => ?_) (fun _ => ?_) | refine Fork.neg (fun _ => ?_) (fun _ => ?_) | refine Fork.mk (fun _ => ?_) (fun _ => ?_) | refine HAlt.mk ?_ ?_ | apply HJoin.mk3 | exact HEnd.mk rfl rfl rfl | refine HEnd.mk ?_ ?_ ?_ | refine Round.mk ?_ | refine NilQ.mk (fun b hb => ?_) | refine forceK_of ?_ | refine forceBx_of ?_ | refine unG_old ?_ | refine unG_gv ?_ | refine Lit.read rfl ?_ | refine FinVal.keep ?_ | refine FinAgg.keep ?_ | refine Final.mk rfl rfl | refine Final.mk ?_ rfl | refine Final.mk ?_ ?_ | refine FinalT.mk ?_ ?_ | refine FinalC.allA ?_)
    | refine AV.bool_congr ?_ | refine AV.int_congr ?_ | refine AV.str_congr ?_ | refine AV.list_congr ?_ | with_reducible rfl | refine fr1 ?_ | refine fr2 ?_ ?_
  refine ALoop.mk Nat (fun i => ⟨[(0, .str r), (1, .list none (strs l)), (2, .clo F [] []), (17, .list none (strs l)), (18, .val (.int .i64 l.length)), (19, .val (.int .i64 i))], [], []⟩) (fun i => i ≤ l.length ∧ (l.take i).all q = true) (fun i => l.length - i) ⟨0, ⟨Nat.zero_le _, rfl⟩, ?_⟩ (fun i hi => ?_)
  · repeat' first
      | exact trivial | refine Weak.mk ?_ ?_ ?_ ?_ (Or.inl (Nat.le_of_ble_eq_true rfl)) | refine Weak.mk ?_ ?_ ?_ ?_ (Or.inr ⟨(by repeat' first | exact trivial | exact Nat.le_of_ble_eq_true rfl | refine And.intro ?_ ?_), (by repeat' first | exact trivial | exact Nat.le_of_ble_eq_true rfl | refine And.intro ?_ ?_)⟩) | refine Weak.mk ?_ ?_ ?_ ?_ ?_ | refine And.intro ?_ ?_ | with_reducible rfl | exact Nat.le_of_ble_eq_true rfl | refine fr1 ?_ | refine fr2 ?_ ?_ | refine AV.int_congr ?_ | refine AV.bool_congr ?_ | refine AV.str_congr ?_ | refine AV.list_congr ?_ | refine AV.bsl_congr ?_ ?_ | (apply rfl)
    simp
  repeat' first
    | contradiction | exact trivial
    | (conv => whnf
       first | refine Need.mk (fun h => h) ?_ | refine Need.mk rfl ?_ | refine Need.mk ⟨rfl, Nat.le_of_ble_eq_true rfl⟩ ?_ | refine Need.mk (Nat.le_of_ble_eq_true rfl) ?_ | refine Need.fin ?_ | refine Need.mk ?_ ?_ | refine Ix.strsF rfl ?_ | refine Ix.strs rfl ?_ ?_ | refine Cut.strs rfl ?_ ?_ | refine Ix.mapF (fun _ => rfl) ?_ | refine Ix.map (fun _ => rfl) ?_ ?_ | refine Cut.map (fun _ => rfl) ?_ ?_ | refine Fork.yes (by assumption) ?_ | refine Fork.no (by assumption) ?_ | refine Fork.decYes (by omega) ?_ | refine Fork.decNo (by omega) ?_ | refine Fork.dec (fun _ => ?_) (fun _ => ?_) | refine Fork.bne (fun _ => ?_) (fun _ => ?_) | refine Fork.beq (fun _ => ?_) (fun _ => ?_) | refine Fork.seq (fun _ => ?_) (fun _ => ?_) | refine Fork.sne (fun _ => ?_) (fun _ => ?_) | refine Fork.neg (fun _ => ?_) (fun _ => ?_) | refine Fork.mk (fun _ => ?_) (fun _ => ?_) | refine HAlt.mk ?_ ?_ | apply HJoin.mk3 | exact HEnd.mk rfl rfl rfl | refine HEnd.mk ?_ ?_ ?_ | refine Round.mk ?_ | refine NilQ.mk (fun b hb => ?_) | refine forceK_of ?_ | refine forceBx_of ?_ | refine unG_old ?_ | refine unG_gv ?_ | refine Lit.read rfl ?_ | refine FinVal.keep ?_ | refine FinAgg.keep ?_ | refine Final.mk rfl rfl | refine Final.mk ?_ rfl | refine Final.mk ?_ ?_ | refine FinalT.mk ?_ ?_ | refine FinalC.allA ?_ | refine ACall.scalA _ _ (hq _ ?_) rfl ?_ | refine AQCall.mkA _ _ (fun hg => hq _ ?_) rfl ?_)
    | refine AV.bool_congr ?_ | refine AV.int_congr ?_ | refine AV.str_congr ?_ | refine AV.list_congr ?_ | with_reducible rfl | refine fr1 ?_ | refine fr2 ?_ ?_
  all_goals try simp only [length_rows, length_strs, length_oldLL, List.length_map, Int.toNat_natCast] at *
  · have := str_le (l := l) (i := i) (by omega); omega
  · rename_i h1 h2
    simp [tupF, allQ_no (by omega) h2]
  · rename_i h1 h2
    refine ⟨i + 1, ⟨by omega, allQ_succ (by omega) hi.2 h2⟩, ?_, by omega⟩
    repeat' first
      | exact trivial | refine Weak.mk ?_ ?_ ?_ ?_ (Or.inl (Nat.le_of_ble_eq_true rfl)) | refine Weak.mk ?_ ?_ ?_ ?_ (Or.inr ⟨(by repeat' first | exact trivial | exact Nat.le_of_ble_eq_true rfl | refine And.intro ?_ ?_), (by repeat' first | exact trivial | exact Nat.le_of_ble_eq_true rfl | refine And.intro ?_ ?_)⟩) | refine Weak.mk ?_ ?_ ?_ ?_ ?_ | refine And.intro ?_ ?_ | with_reducible rfl | exact Nat.le_of_ble_eq_true rfl | refine fr1 ?_ | refine fr2 ?_ ?_ | refine AV.int_congr ?_ | refine AV.bool_congr ?_ | refine AV.str_congr ?_ | refine AV.list_congr ?_ | refine AV.bsl_congr ?_ ?_ | (apply rfl)
    rw [wrap64 (by omega) (by omega)]; rfl
  · have := hi.2
    rw [List.take_of_length_le (by omega)] at this
    simp [tupF, this, hn, hl3]
theorem pIsFact.ret (f : Fct) (h : tFct.size f ≤ 1048576) : pIsFact.Ret [.agg (oldL (tFct.q f))] (.val (.bool (isFactF f))) [] := by
  refine pIsFact.of rfl ?_
  rw [tFct_size, tStrs_size] at h
  have ht : pisTuple.Ret [.str f.1, .list none (strs f.2), .clo 47 [] []] (.val (.bool (isFactF f))) [] := pisTuple.ret atomF _ (fun s hs => pIsAtom.ret s hs) f.1 f.2 (by omega) (by omega)
  repeat' first
    | contradiction | exact trivial
    | (conv => whnf
       first | refine Need.mk (fun h => h) ?_ | refine Need.mk rfl ?_ | refine Need.mk ⟨rfl, Nat.le_of_ble_eq_true rfl⟩ ?_ | refine Need.mk (Nat.le_of_ble_eq_true rfl) ?_ | refine Need.fin ?_ | refine Need.mk ?_ ?_ | refine Ix.strsF rfl ?_ | refine Ix.strs rfl ?_ ?_ | refine Cut.strs rfl ?_ ?_ | refine Ix.mapF (fun _ => rfl) ?_ | refine Ix.map (fun _ => rfl) ?_ ?_ | refine Cut.map (fun _ => rfl) ?_ ?_ | refine Fork.yes (by assumption) ?_ | refine Fork.no (by assumption) ?_ | refine Fork.decYes (by omega) ?_ | refine Fork.decNo (by omega) ?_ | refine Fork.dec (fun _ => ?_) (fun _ => ?_) | refine Fork.bne (fun _ => ?_) (fun _ => ?_) | refine Fork.beq (fun _ => ?_) (fun _ => ?_) | refine Fork.seq (fun _ => ?_) (fun _ => ?_) | refine Fork.sne (fun _ => ?_) (fun _ => ?_) | refine Fork.neg (fun _ => ?_) (fun _ => ?_) | refine Fork.mk (fun _ => ?_) (fun _ => ?_) | refine HAlt.mk ?_ ?_ | apply HJoin.mk3 | exact HEnd.mk rfl rfl rfl | refine HEnd.mk ?_ ?_ ?_ | refine Round.mk ?_ | refine NilQ.mk (fun b hb => ?_) | refine forceK_of ?_ | refine forceBx_of ?_ | refine unG_old ?_ | refine unG_gv ?_ | refine Lit.read rfl ?_ | refine FinVal.keep ?_ | refine FinAgg.keep ?_ | refine Final.mk rfl rfl | refine Final.mk ?_ rfl | refine Final.mk ?_ ?_ | refine FinalT.mk ?_ ?_ | refine FinalC.allA ?_ | refine ACall.scalA _ _ (ht) rfl ?_ | refine AQCall.mkA _ _ (fun hg => ht) rfl ?_)
    | refine AV.bool_congr ?_ | refine AV.int_congr ?_ | refine AV.str_congr ?_ | refine AV.list_congr ?_ | with_reducible rfl | refine fr1 ?_ | refine fr2 ?_ ?_
theorem pIsPattern.ret (f : VPattern) (h : tPattern.size f ≤ 1048576) : pIsPattern.Ret [.agg (oldL (tPattern.q f))] (.val (.bool (isPatF f))) [] := by
  refine pIsPattern.of rfl ?_
  have h : tFct.size f ≤ 1048576 := h
  rw [tFct_size, tStrs_size] at h
  have ht : pisTuple.Ret [.str f.1, .list none (strs f.2), .clo 62 [] []] (.val (.bool (isPatF f))) [] := pisTuple.ret termF _ (fun s hs => pIsTerm.ret s hs) f.1 f.2 (by omega) (by omega)
  repeat' first
    | contradiction | exact trivial
    | (conv => whnf
       first | refine Need.mk (fun h => h) ?_ | refine Need.mk rfl ?_ | refine Need.mk ⟨rfl, Nat.le_of_ble_eq_true rfl⟩ ?_ | refine Need.mk (Nat.le_of_ble_eq_true rfl) ?_ | refine Need.fin ?_ | refine Need.mk ?_ ?_ | refine Ix.strsF rfl ?_ | refine Ix.strs rfl ?_ ?_ | refine Cut.strs rfl ?_ ?_ | refine Ix.mapF (fun _ => rfl) ?_ | refine Ix.map (fun _ => rfl) ?_ ?_ | refine Cut.map (fun _ => rfl) ?_ ?_ | refine Fork.yes (by assumption) ?_ | refine Fork.no (by assumption) ?_ | refine Fork.decYes (by omega) ?_ | refine Fork.decNo (by omega) ?_ | refine Fork.dec (fun _ => ?_) (fun _ => ?_) | refine Fork.bne (fun _ => ?_) (fun _ => ?_) | refine Fork.beq (fun _ => ?_) (fun _ => ?_) | refine Fork.seq (fun _ => ?_) (fun _ => ?_) | refine Fork.sne (fun _ => ?_) (fun _ => ?_) | refine Fork.neg (fun _ => ?_) (fun _ => ?_) | refine Fork.mk (fun _ => ?_) (fun _ => ?_) | refine HAlt.mk ?_ ?_ | apply HJoin.mk3 | exact HEnd.mk rfl rfl rfl | refine HEnd.mk ?_ ?_ ?_ | refine Round.mk ?_ | refine NilQ.mk (fun b hb => ?_) | refine forceK_of ?_ | refine forceBx_of ?_ | refine unG_old ?_ | refine unG_gv ?_ | refine Lit.read rfl ?_ | refine FinVal.keep ?_ | refine FinAgg.keep ?_ | refine Final.mk rfl rfl | refine Final.mk ?_ rfl | refine Final.mk ?_ ?_ | refine FinalT.mk ?_ ?_ | refine FinalC.allA ?_ | refine ACall.scalA _ _ (ht) rfl ?_ | refine AQCall.mkA _ _ (fun hg => ht) rfl ?_)
    | refine AV.bool_congr ?_ | refine AV.int_congr ?_ | refine AV.str_congr ?_ | refine AV.list_congr ?_ | with_reducible rfl | refine fr1 ?_ | refine fr2 ?_ ?_
theorem sIsPattern.ret (f : VPattern) (h : tPattern.size f ≤ 1048576) : sIsPattern.Ret [.agg (oldL (tPattern.q f))] (.val (.bool (isPatF f))) [] := by
  refine sIsPattern.of rfl ?_
  have h : tFct.size f ≤ 1048576 := h
  rw [tFct_size, tStrs_size] at h
  repeat' first
    | contradiction | exact trivial
    | (conv => whnf
       first | refine Need.mk (fun h => h) ?_ | refine Need.mk rfl ?_ | refine Need.mk ⟨rfl, Nat.le_of_ble_eq_true rfl⟩ ?_ | refine Need.mk (Nat.le_of_ble_eq_true rfl) ?_ | refine Need.fin ?_ | refine Need.mk ?_ ?_ | refine Ix.strsF rfl ?_ | refine Ix.strs rfl ?_ ?_ | refine Cut.strs rfl ?_ ?_ | refine Ix.mapF (fun _ => rfl) ?_ | refine Ix.map (fun _ => rfl) ?_ ?_ | refine Cut.map (fun _ => rfl) ?_ ?_ | refine Fork.yes (by assumption) ?_ | refine Fork.no (by assumption) ?_ | refine Fork.decYes (by omega) ?_ | refine Fork.decNo (by omega) ?_ | refine Fork.dec (fun _ => ?_) (fun _ => ?_) | refine Fork.bne (fun _ => ?_) (fun _ => ?_) | refine Fork.beq (fun _ => ?_) (fun _ => ?_) | refine Fork.seq (fun _ => ?_) (fun _ => ?_) | refine Fork.sne (fun _ => ?_) (fun _ => ?_) | refine Fork.neg (fun _ => ?_) (fun _ => ?_) | refine Fork.mk (fun _ => ?_) (fun _ => ?_) | refine HAlt.mk ?_ ?_ | apply HJoin.mk3 | exact HEnd.mk rfl rfl rfl | refine HEnd.mk ?_ ?_ ?_ | refine Round.mk ?_ | refine NilQ.mk (fun b hb => ?_) | refine forceK_of ?_ | refine forceBx_of ?_ | refine unG_old ?_ | refine unG_gv ?_ | refine Lit.read rfl ?_ | refine FinVal.keep ?_ | refine FinAgg.keep ?_ | refine Final.mk rfl rfl | refine Final.mk ?_ rfl | refine Final.mk ?_ ?_ | refine FinalT.mk ?_ ?_ | refine FinalC.allA ?_)
    | refine AV.bool_congr ?_ | refine AV.int_congr ?_ | refine AV.str_congr ?_ | refine AV.list_congr ?_ | with_reducible rfl | refine fr1 ?_ | refine fr2 ?_ ?_
  refine ALoop.mk Nat (fun i => ⟨[(1, .bptr 0 0), (3, .val (.int .i64 i))], [.cells .var (oldL (tPattern.q f))], []⟩) (fun i => i ≤ f.2.length ∧ (f.2.take i).all termF = true) (fun i => f.2.length - i) ⟨0, ⟨Nat.zero_le _, rfl⟩, ?_⟩ (fun i hi => ?_)
  · repeat' first
      | exact trivial | refine Weak.mk ?_ ?_ ?_ ?_ (Or.inl (Nat.le_of_ble_eq_true rfl)) | refine Weak.mk ?_ ?_ ?_ ?_ (Or.inr ⟨(by repeat' first | exact trivial | exact Nat.le_of_ble_eq_true rfl | refine And.intro ?_ ?_), (by repeat' first | exact trivial | exact Nat.le_of_ble_eq_true rfl | refine And.intro ?_ ?_)⟩) | refine Weak.mk ?_ ?_ ?_ ?_ ?_ | refine And.intro ?_ ?_ | with_reducible rfl | exact Nat.le_of_ble_eq_true rfl | refine fr1 ?_ | refine fr2 ?_ ?_ | refine AV.int_congr ?_ | refine AV.bool_congr ?_ | refine AV.str_congr ?_ | refine AV.list_congr ?_ | refine AV.bsl_congr ?_ ?_ | (apply rfl)
  repeat' first
    | contradiction | exact trivial
    | (conv => whnf
       first | refine Need.mk (fun h => h) ?_ | refine Need.mk rfl ?_ | refine Need.mk ⟨rfl, Nat.le_of_ble_eq_true rfl⟩ ?_ | refine Need.mk (Nat.le_of_ble_eq_true rfl) ?_ | refine Need.fin ?_ | refine Need.mk ?_ ?_ | refine Ix.strsF rfl ?_ | refine Ix.strs rfl ?_ ?_ | refine Cut.strs rfl ?_ ?_ | refine Ix.mapF (fun _ => rfl) ?_ | refine Ix.map (fun _ => rfl) ?_ ?_ | refine Cut.map (fun _ => rfl) ?_ ?_ | refine Fork.yes (by assumption) ?_ | refine Fork.no (by assumption) ?_ | refine Fork.decYes (by omega) ?_ | refine Fork.decNo (by omega) ?_ | refine Fork.dec (fun _ => ?_) (fun _ => ?_) | refine Fork.bne (fun _ => ?_) (fun _ => ?_) | refine Fork.beq (fun _ => ?_) (fun _ => ?_) | refine Fork.seq (fun _ => ?_) (fun _ => ?_) | refine Fork.sne (fun _ => ?_) (fun _ => ?_) | refine Fork.neg (fun _ => ?_) (fun _ => ?_) | refine Fork.mk (fun _ => ?_) (fun _ => ?_) | refine HAlt.mk ?_ ?_ | apply HJoin.mk3 | exact HEnd.mk rfl rfl rfl | refine HEnd.mk ?_ ?_ ?_ | refine Round.mk ?_ | refine NilQ.mk (fun b hb => ?_) | refine forceK_of ?_ | refine forceBx_of ?_ | refine unG_old ?_ | refine unG_gv ?_ | refine Lit.read rfl ?_ | refine FinVal.keep ?_ | refine FinAgg.keep ?_ | refine Final.mk rfl rfl | refine Final.mk ?_ rfl | refine Final.mk ?_ ?_ | refine FinalT.mk ?_ ?_ | refine FinalC.allA ?_ | refine ACall.scalA _ _ (sIsTerm.ret _ ?_) rfl ?_ | refine AQCall.mkA _ _ (fun hg => sIsTerm.ret _ ?_) rfl ?_ | refine ACall.scalA _ _ (sIsName.ret _ ?_) rfl ?_ | refine AQCall.mkA _ _ (fun hg => sIsName.ret _ ?_) rfl ?_)
    | refine AV.bool_congr ?_ | refine AV.int_congr ?_ | refine AV.str_congr ?_ | refine AV.list_congr ?_ | with_reducible rfl | refine fr1 ?_ | refine fr2 ?_ ?_
  all_goals try simp only [length_rows, length_strs, length_oldLL, List.length_map, Int.toNat_natCast] at *
  · have := str_le (l := f.2) (i := i) (by omega); omega
  · rename_i h2 h1
    have h2 : termF (f.2.getD i []) = false := h2
    simp [tupF, allQ_no (by omega) h2]
  · rename_i h2 h1
    refine ⟨i + 1, ⟨by omega, allQ_succ (by omega) hi.2 h2⟩, ?_, by omega⟩
    repeat' first
      | exact trivial | refine Weak.mk ?_ ?_ ?_ ?_ (Or.inl (Nat.le_of_ble_eq_true rfl)) | refine Weak.mk ?_ ?_ ?_ ?_ (Or.inr ⟨(by repeat' first | exact trivial | exact Nat.le_of_ble_eq_true rfl | refine And.intro ?_ ?_), (by repeat' first | exact trivial | exact Nat.le_of_ble_eq_true rfl | refine And.intro ?_ ?_)⟩) | refine Weak.mk ?_ ?_ ?_ ?_ ?_ | refine And.intro ?_ ?_ | with_reducible rfl | exact Nat.le_of_ble_eq_true rfl | refine fr1 ?_ | refine fr2 ?_ ?_ | refine AV.int_congr ?_ | refine AV.bool_congr ?_ | refine AV.str_congr ?_ | refine AV.list_congr ?_ | refine AV.bsl_congr ?_ ?_ | (apply rfl)
    rw [wrap64 (by omega) (by omega)]; rfl
  · omega
  · have := hi.2
    rw [List.take_of_length_le (by omega)] at this
    simp [tupF, this]
end Go.Proofs.YtfffboofmccfhaaGreat
namespace Go.Proofs.YtfffboofmccfhaaGreat
open Abs
theorem slEqual.ret (l m : List Str) (hl : l.length ≤ 1099511627776) : slEqual.Ret [.list none (strs l), .list none (strs m)] (.val (.bool (decide (l = m)))) [] := by
  refine slEqual.of rfl ?_
  repeat' first
    | contradiction | exact trivial
    | (conv => whnf
       first | refine Need.mk (fun h => h) ?_ | refine Need.mk rfl ?_ | refine Need.mk ⟨rfl, Nat.le_of_ble_eq_true rfl⟩ ?_ | refine Need.mk (Nat.le_of_ble_eq_true rfl) ?_ | refine Need.fin ?_ | refine Need.mk ?_ ?_ | refine Ix.strsF rfl ?_ | refine Ix.strs rfl ?_ ?_ | refine Cut.strs rfl ?_ ?_ | refine Ix.mapF (fun _ => rfl) ?_ | refine Ix.map (fun _ => rfl) ?_ ?_ | refine Cut.map (fun _ => rfl) ?_ ?_ | refine Fork.yes (by assumption) ?_ | refine Fork.no (by assumption) ?_ | refine Fork.decYes (by omega) ?_ | refine Fork.decNo (by omega) ?_ | refine Fork.dec (fun _ => ?_) (fun _ => ?_) | refine Fork.bne (fun _ => ?_) (fun _ => ?_) | refine Fork.beq (fun _ => ?_) (fun _ => ?_) | refine Fork.seq (fun _ => ?_) (fun _ => ?_) | refine Fork.sne (fun _ => ?_) (fun _ => ?_) | refine Fork.neg (fun _ => ?_) (fun _ => ?_) | refine Fork.mk (fun _ => ?_) (fun _ => ?_) | refine HAlt.mk ?_ ?_ | apply HJoin.mk3 | exact HEnd.mk rfl rfl rfl | refine HEnd.mk ?_ ?_ ?_ | refine Round.mk ?_ | refine NilQ.mk (fun b hb => ?_) | refine forceK_of ?_ | refine forceBx_of ?_ | refine unG_old ?_ | refine unG_gv ?_ | refine Lit.read rfl ?_ | refine FinVal.keep ?_ | refine FinAgg.keep ?_ | refine Final.mk rfl rfl | refine Final.mk ?_ rfl | refine Final.mk ?_ ?_ | refine FinalT.mk ?_ ?_ | refine FinalC.allA ?_)
    | refine AV.bool_congr ?_ | refine AV.int_congr ?_ | refine AV.str_congr ?_ | refine AV.list_congr ?_ | with_reducible rfl | refine fr1 ?_ | refine fr2 ?_ ?_
  · rename_i h
    rw [length_strs, length_strs] at h
    have h3 : ¬ l = m := fun e => h (by rw [e])
    simp [h3]
  rename_i h
  rw [length_strs, length_strs] at h
  have h : l.length = m.length := by omega
  repeat' first
    | contradiction | exact trivial
    | (conv => whnf
       first | refine Need.mk (fun h => h) ?_ | refine Need.mk rfl ?_ | refine Need.mk ⟨rfl, Nat.le_of_ble_eq_true rfl⟩ ?_ | refine Need.mk (Nat.le_of_ble_eq_true rfl) ?_ | refine Need.fin ?_ | refine Need.mk ?_ ?_ | refine Ix.strsF rfl ?_ | refine Ix.strs rfl ?_ ?_ | refine Cut.strs rfl ?_ ?_ | refine Ix.mapF (fun _ => rfl) ?_ | refine Ix.map (fun _ => rfl) ?_ ?_ | refine Cut.map (fun _ => rfl) ?_ ?_ | refine Fork.yes (by assumption) ?_ | refine Fork.no (by assumption) ?_ | refine Fork.decYes (by omega) ?_ | refine Fork.decNo (by omega) ?_ | refine Fork.dec (fun _ => ?_) (fun _ => ?_) | refine Fork.bne (fun _ => ?_) (fun _ => ?_) | refine Fork.beq (fun _ => ?_) (fun _ => ?_) | refine Fork.seq (fun _ => ?_) (fun _ => ?_) | refine Fork.sne (fun _ => ?_) (fun _ => ?_) | refine Fork.neg (fun _ => ?_) (fun _ => ?_) | refine Fork.mk (fun _ => ?_) (fun _ => ?_) | refine HAlt.mk ?_ ?_ | apply HJoin.mk3 | exact HEnd.mk rfl rfl rfl | refine HEnd.mk ?_ ?_ ?_ | refine Round.mk ?_ | refine NilQ.mk (fun b hb => ?_) | refine forceK_of ?_ | refine forceBx_of ?_ | refine unG_old ?_ | refine unG_gv ?_ | refine Lit.read rfl ?_ | refine FinVal.keep ?_ | refine FinAgg.keep ?_ | refine Final.mk rfl rfl | refine Final.mk ?_ rfl | refine Final.mk ?_ ?_ | refine FinalT.mk ?_ ?_ | refine FinalC.allA ?_)
    | refine AV.bool_congr ?_ | refine AV.int_congr ?_ | refine AV.str_congr ?_ | refine AV.list_congr ?_ | with_reducible rfl | refine fr1 ?_ | refine fr2 ?_ ?_
  refine ALoop.mk Nat (fun i => ⟨[(0, .list none (strs l)), (1, .list none (strs m)), (12, .val (.int .i64 l.length)), (13, .val (.int .i64 i))], [], []⟩) (fun i => i ≤ l.length ∧ l.take i = m.take i) (fun i => l.length - i) ⟨0, ⟨Nat.zero_le _, rfl⟩, ?_⟩ (fun i hi => ?_)
  · repeat' first
      | exact trivial | refine Weak.mk ?_ ?_ ?_ ?_ (Or.inl (Nat.le_of_ble_eq_true rfl)) | refine Weak.mk ?_ ?_ ?_ ?_ (Or.inr ⟨(by repeat' first | exact trivial | exact Nat.le_of_ble_eq_true rfl | refine And.intro ?_ ?_), (by repeat' first | exact trivial | exact Nat.le_of_ble_eq_true rfl | refine And.intro ?_ ?_)⟩) | refine Weak.mk ?_ ?_ ?_ ?_ ?_ | refine And.intro ?_ ?_ | with_reducible rfl | exact Nat.le_of_ble_eq_true rfl | refine fr1 ?_ | refine fr2 ?_ ?_ | refine AV.int_congr ?_ | refine AV.bool_congr ?_ | refine AV.str_congr ?_ | refine AV.list_congr ?_ | refine AV.bsl_congr ?_ ?_ | (apply rfl)
    simp
  repeat' first
    | contradiction | exact trivial
    | (conv => whnf
       first | refine Need.mk (fun h => h) ?_ | refine Need.mk rfl ?_ | refine Need.mk ⟨rfl, Nat.le_of_ble_eq_true rfl⟩ ?_ | refine Need.mk (Nat.le_of_ble_eq_true rfl) ?_ | refine Need.fin ?_ | refine Need.mk ?_ ?_ | refine Ix.strsF rfl ?_ | refine Ix.strs rfl ?_ ?_ | refine Cut.strs rfl ?_ ?_ | refine Ix.mapF (fun _ => rfl) ?_ | refine Ix.map (fun _ => rfl) ?_ ?_ | refine Cut.map (fun _ => rfl) ?_ ?_ | refine Fork.yes (by assumption) ?_ | refine Fork.no (by assumption) ?_ | refine Fork.decYes (by omega) ?_ | refine Fork.decNo (by omega) ?_ | refine Fork.dec (fun _ => ?_) (fun _ => ?_) | refine Fork.bne (fun _ => ?_) (fun _ => ?_) | refine Fork.beq (fun _ => ?_) (fun _ => ?_) | refine Fork.seq (fun _ => ?_) (fun _ => ?_) | refine Fork.sne (fun _ => ?_) (fun _ => ?_) | refine Fork.neg (fun _ => ?_) (fun _ => ?_) | refine Fork.mk (fun _ => ?_) (fun _ => ?_) | refine HAlt.mk ?_ ?_ | apply HJoin.mk3 | exact HEnd.mk rfl rfl rfl | refine HEnd.mk ?_ ?_ ?_ | refine Round.mk ?_ | refine NilQ.mk (fun b hb => ?_) | refine forceK_of ?_ | refine forceBx_of ?_ | refine unG_old ?_ | refine unG_gv ?_ | refine Lit.read rfl ?_ | refine FinVal.keep ?_ | refine FinAgg.keep ?_ | refine Final.mk rfl rfl | refine Final.mk ?_ rfl | refine Final.mk ?_ ?_ | refine FinalT.mk ?_ ?_ | refine FinalC.allA ?_)
    | refine AV.bool_congr ?_ | refine AV.int_congr ?_ | refine AV.str_congr ?_ | refine AV.list_congr ?_ | with_reducible rfl | refine fr1 ?_ | refine fr2 ?_ ?_
  · rename_i h1 h2
    have h3 : ¬ l = m := fun e => h2 (by rw [e])
    simp [h3]
  · rename_i h1 h2
    refine ⟨i + 1, ⟨by omega, ?_⟩, ?_, by omega⟩
    · rw [take_succ' [] (by omega), take_succ' (l := m) [] (by omega), hi.2]
      rw [Int.toNat_natCast] at h2
      have h2' : l.getD i [] = m.getD i [] := h2
      rw [h2']
    · repeat' first
        | exact trivial | refine Weak.mk ?_ ?_ ?_ ?_ (Or.inl (Nat.le_of_ble_eq_true rfl)) | refine Weak.mk ?_ ?_ ?_ ?_ (Or.inr ⟨(by repeat' first | exact trivial | exact Nat.le_of_ble_eq_true rfl | refine And.intro ?_ ?_), (by repeat' first | exact trivial | exact Nat.le_of_ble_eq_true rfl | refine And.intro ?_ ?_)⟩) | refine Weak.mk ?_ ?_ ?_ ?_ ?_ | refine And.intro ?_ ?_ | with_reducible rfl | exact Nat.le_of_ble_eq_true rfl | refine fr1 ?_ | refine fr2 ?_ ?_ | refine AV.int_congr ?_ | refine AV.bool_congr ?_ | refine AV.str_congr ?_ | refine AV.list_congr ?_ | refine AV.bsl_congr ?_ ?_ | (apply rfl)
      rw [wrap64 (by omega) (by omega)]; rfl
  · rename_i h1
    have h2 := hi.2
    rw [List.take_of_length_le (by omega), List.take_of_length_le (by omega)] at h2
    simp [h2]
theorem fct_le {l : List Fct} {i : Nat} (hi : i < l.length) : tFct.size (l.getD i default) ≤ listSize tFct l :=
  listSize_mem tFct (List.mem_of_getElem? (facts_get hi))
end Go.Proofs.YtfffboofmccfhaaGreat
namespace Go.Proofs.YtfffboofmccfhaaGreat
namespace Abs
variable {α : Type}
theorem rows_snoc (T : Ty α) (l : List α) (a : α) : rows T l ++ [oldL (T.q a)] = rows T (l ++ [a]) := by simp [rows, oldLL_eq, oldL_eq]
theorem rows_cut (T : Ty α) (l : List α) : ∀ c ∈ rows T l, c.length = T.sz := oldLL_sz T.hq
theorem plain_ownA (T : Ty α) (hf : ∀ a, T.fr a = []) (e : ∀ a, T.tk a 0 = oldL (T.q a)) (F : Fr) (t k : Nat) (l : List α) (hk : F[k]? = some (t, T.sz, l.length)) {xs : List Tr} {cs : List AV} (h : OwnA F xs cs []) :
    OwnA F (.l t T.sz (l.map T.q) :: xs) (.list (some k) (rows T l) :: cs) [k] := by
  have h3 := own_plain T hf 0 F l
  have e2 : (l.map fun a => T.tk a 0) = rows T l := by rw [rows, oldLL_eq, List.map_map]; exact List.map_congr_left fun a _ => by rw [e, oldL_eq]; rfl
  rw [e2] at h3
  exact .l t T.sz _ k _ (by rw [hk, List.length_map]) (by simp) (fun e he => by obtain ⟨a, _, rfl⟩ := List.mem_map.1 he; exact T.hq a) (rows_cut T l) h3 h
end Abs
end Go.Proofs.YtfffboofmccfhaaGreat
namespace Go.Proofs.YtfffboofmccfhaaGreat
open Abs
abbrev pairs (b : List VPair) : List (List AV) := rows tPair b
theorem pr_le {l : List VPair} (i : Nat) : (l.getD i default).1.length + (l.getD i default).2.length ≤ listSize tPair l := by
  rcases Nat.lt_or_ge i l.length with h | h
  · exact tPair_le h
  · have : l.getD i default = default := by simp [List.getD, List.getElem?_eq_none h]
    rw [this]; exact Nat.zero_le _
def badB (b : List VPair) (i : Nat) : Bool := !varF (b.getD i default).1 || !atomF (b.getD i default).2 || decide ((0 : Int) < i) && !Op.bytesLess (b.getD (i - 1) default).1 (b.getD i default).1
theorem badB_step {b : List VPair} {i : Nat} {x : Int} (hx : x = (i : Int) - 1) :
    (!varF (b.getD i default).1 || !atomF (b.getD i default).2 || decide ((0 : Int) < i) && !Op.bytesLess (b.getD x.toNat default).1 (b.getD i default).1) = badB b i := by
  subst hx
  unfold badB
  rw [show ((i : Int) - 1).toNat = i - 1 by omega]
@[irreducible] def bindF (b : List VPair) : Bool := decide ((b.length : Int) ≤ 6) && (List.range b.length).all fun i => !badB b i
theorem bindF_no {b : List VPair} {i : Nat} (hi : i < b.length) (h : badB b i = true) : bindF b = false := by
  have : ((List.range b.length).all fun i => !badB b i) = false := by
    rw [List.all_eq_false]
    exact ⟨i, List.mem_range.2 hi, by simp [h]⟩
  unfold bindF; rw [this, Bool.and_false]
theorem bindF_yes {b : List VPair} (h : ∀ j, j < b.length → badB b j = false) : bindF b = decide ((b.length : Int) ≤ 6) := by
  have : ((List.range b.length).all fun i => !badB b i) = true := by
    rw [List.all_eq_true]
    intro j hj
    simp [h j (List.mem_range.1 hj)]
  unfold bindF; rw [this, Bool.and_true]
theorem bindF_long {b : List VPair} (h : ¬ (b.length : Int) ≤ 6) : bindF b = false := by unfold bindF; simp [h]
theorem sIsBinding.ret (b : List VPair) (h : tPairs.size b ≤ 1048576) : sIsBinding.Ret [.list none (pairs b)] (.val (.bool (bindF b))) [] := by
  refine sIsBinding.of rfl ?_
  rw [tPairs_sz] at h
  repeat' first
    | contradiction | exact trivial
    | (conv => whnf
       first | refine Need.mk (fun h => h) ?_ | refine Need.mk rfl ?_ | refine Need.mk ⟨rfl, Nat.le_of_ble_eq_true rfl⟩ ?_ | refine Need.mk (Nat.le_of_ble_eq_true rfl) ?_ | refine Need.fin ?_ | refine Need.mk ?_ ?_ | refine Ix.strsF rfl ?_ | refine Ix.strs rfl ?_ ?_ | refine Cut.strs rfl ?_ ?_ | refine Ix.mapF (fun _ => rfl) ?_ | refine Ix.map (fun _ => rfl) ?_ ?_ | refine Cut.map (fun _ => rfl) ?_ ?_ | refine Fork.yes (by assumption) ?_ | refine Fork.no (by assumption) ?_ | refine Fork.decYes (by omega) ?_ | refine Fork.decNo (by omega) ?_ | refine Fork.dec (fun _ => ?_) (fun _ => ?_) | refine Fork.bne (fun _ => ?_) (fun _ => ?_) | refine Fork.beq (fun _ => ?_) (fun _ => ?_) | refine Fork.seq (fun _ => ?_) (fun _ => ?_) | refine Fork.sne (fun _ => ?_) (fun _ => ?_) | refine Fork.neg (fun _ => ?_) (fun _ => ?_) | refine Fork.mk (fun _ => ?_) (fun _ => ?_) | refine HAlt.mk ?_ ?_ | apply HJoin.mk3 | exact HEnd.mk rfl rfl rfl | refine HEnd.mk ?_ ?_ ?_ | refine Round.mk ?_ | refine NilQ.mk (fun b hb => ?_) | refine forceK_of ?_ | refine forceBx_of ?_ | refine unG_old ?_ | refine unG_gv ?_ | refine Lit.read rfl ?_ | refine FinVal.keep ?_ | refine FinAgg.keep ?_ | refine Final.mk rfl rfl | refine Final.mk ?_ rfl | refine Final.mk ?_ ?_ | refine FinalT.mk ?_ ?_ | refine FinalC.allA ?_)
    | refine AV.bool_congr ?_ | refine AV.int_congr ?_ | refine AV.str_congr ?_ | refine AV.list_congr ?_ | with_reducible rfl | refine fr1 ?_ | refine fr2 ?_ ?_
  refine ALoop.mk Nat (fun i => ⟨[(0, .list none (pairs b)), (3, .val (.int .i64 i))], [], []⟩) (fun i => i ≤ b.length ∧ ∀ j, j < i → badB b j = false) (fun i => b.length - i) ⟨0, ⟨Nat.zero_le _, by omega⟩, ?_⟩ (fun i hi => ?_)
  · repeat' first
      | exact trivial | refine Weak.mk ?_ ?_ ?_ ?_ (Or.inl (Nat.le_of_ble_eq_true rfl)) | refine Weak.mk ?_ ?_ ?_ ?_ (Or.inr ⟨(by repeat' first | exact trivial | exact Nat.le_of_ble_eq_true rfl | refine And.intro ?_ ?_), (by repeat' first | exact trivial | exact Nat.le_of_ble_eq_true rfl | refine And.intro ?_ ?_)⟩) | refine Weak.mk ?_ ?_ ?_ ?_ ?_ | refine And.intro ?_ ?_ | with_reducible rfl | exact Nat.le_of_ble_eq_true rfl | refine fr1 ?_ | refine fr2 ?_ ?_ | refine AV.int_congr ?_ | refine AV.bool_congr ?_ | refine AV.str_congr ?_ | refine AV.list_congr ?_ | refine AV.bsl_congr ?_ ?_ | (apply rfl)
  have hw : i < b.length → IntKind.i64.wrap ((i : Int) - 1) = (i : Int) - 1 := fun h => wrap64 (by omega) (by omega)
  have hp := pr_le (l := b) i
  have hp' := pr_le (l := b) (i - 1)
  repeat' first
    | contradiction | exact trivial
    | (conv => whnf
       first | refine Need.mk (fun h => h) ?_ | refine Need.mk rfl ?_ | refine Need.mk ⟨rfl, Nat.le_of_ble_eq_true rfl⟩ ?_ | refine Need.mk (Nat.le_of_ble_eq_true rfl) ?_ | refine Need.fin ?_ | refine Need.mk ?_ ?_ | refine Ix.strsF rfl ?_ | refine Ix.strs rfl ?_ ?_ | refine Cut.strs rfl ?_ ?_ | refine Ix.mapF (fun _ => rfl) ?_ | refine Ix.map (fun _ => rfl) ?_ ?_ | refine Cut.map (fun _ => rfl) ?_ ?_ | refine Fork.yes (by assumption) ?_ | refine Fork.no (by assumption) ?_ | refine Fork.decYes (by omega) ?_ | refine Fork.decNo (by omega) ?_ | refine Fork.dec (fun _ => ?_) (fun _ => ?_) | refine Fork.bne (fun _ => ?_) (fun _ => ?_) | refine Fork.beq (fun _ => ?_) (fun _ => ?_) | refine Fork.seq (fun _ => ?_) (fun _ => ?_) | refine Fork.sne (fun _ => ?_) (fun _ => ?_) | refine Fork.neg (fun _ => ?_) (fun _ => ?_) | refine Fork.mk (fun _ => ?_) (fun _ => ?_) | refine HAlt.mk ?_ ?_ | apply HJoin.mk3 | exact HEnd.mk rfl rfl rfl | refine HEnd.mk ?_ ?_ ?_ | refine Round.mk ?_ | refine NilQ.mk (fun b hb => ?_) | refine forceK_of ?_ | refine forceBx_of ?_ | refine unG_old ?_ | refine unG_gv ?_ | refine Lit.read rfl ?_ | refine FinVal.keep ?_ | refine FinAgg.keep ?_ | refine Final.mk rfl rfl | refine Final.mk ?_ rfl | refine Final.mk ?_ ?_ | refine FinalT.mk ?_ ?_ | refine FinalC.allA ?_ | refine ACall.scalA _ _ (sIsVar.ret _ ?_) rfl ?_ | refine AQCall.mkA _ _ (fun hg => sIsVar.ret _ ?_) rfl ?_ | refine ACall.scalA _ _ (sIsAtom.ret _ ?_) rfl ?_ | refine AQCall.mkA _ _ (fun hg => sIsAtom.ret _ ?_) rfl ?_)
    | refine AV.bool_congr ?_ | refine AV.int_congr ?_ | refine AV.str_congr ?_ | refine AV.list_congr ?_ | with_reducible rfl | refine fr1 ?_ | refine fr2 ?_ ?_
  all_goals try simp only [length_rows, length_strs, length_oldLL, List.length_map, Int.toNat_natCast] at *
  all_goals try omega
  · rename_i h1 h2
    rw [badB_step (hw (by omega))] at h1
    rw [bindF_no (by omega) h1]
  · rename_i h1 h2
    rw [badB_step (hw (by omega))] at h1
    refine ⟨i + 1, ⟨by omega, fun j hj => ?_⟩, ?_, by omega⟩
    · rcases Nat.lt_or_ge j i with h | h
      · exact hi.2 j h
      · have : j = i := by omega
        subst this; exact h1
    · repeat' first
        | exact trivial | refine Weak.mk ?_ ?_ ?_ ?_ (Or.inl (Nat.le_of_ble_eq_true rfl)) | refine Weak.mk ?_ ?_ ?_ ?_ (Or.inr ⟨(by repeat' first | exact trivial | exact Nat.le_of_ble_eq_true rfl | refine And.intro ?_ ?_), (by repeat' first | exact trivial | exact Nat.le_of_ble_eq_true rfl | refine And.intro ?_ ?_)⟩) | refine Weak.mk ?_ ?_ ?_ ?_ ?_ | refine And.intro ?_ ?_ | with_reducible rfl | exact Nat.le_of_ble_eq_true rfl | refine fr1 ?_ | refine fr2 ?_ ?_ | refine AV.int_congr ?_ | refine AV.bool_congr ?_ | refine AV.str_congr ?_ | refine AV.list_congr ?_ | refine AV.bsl_congr ?_ ?_ | (apply rfl)
      rw [wrap64 (by omega) (by omega)]; rfl
  · rw [bindF_yes (fun j hj => hi.2 j (by omega))]
theorem pIsBinding.ret (b : List VPair) (h : tPairs.size b ≤ 1048576) : pIsBinding.Ret [.list none (pairs b)] (.val (.bool (bindF b))) [] := by
  refine pIsBinding.of rfl ?_
  rw [tPairs_sz] at h
  repeat' first
    | contradiction | exact trivial
    | (conv => whnf
       first | refine Need.mk (fun h => h) ?_ | refine Need.mk rfl ?_ | refine Need.mk ⟨rfl, Nat.le_of_ble_eq_true rfl⟩ ?_ | refine Need.mk (Nat.le_of_ble_eq_true rfl) ?_ | refine Need.fin ?_ | refine Need.mk ?_ ?_ | refine Ix.strsF rfl ?_ | refine Ix.strs rfl ?_ ?_ | refine Cut.strs rfl ?_ ?_ | refine Ix.mapF (fun _ => rfl) ?_ | refine Ix.map (fun _ => rfl) ?_ ?_ | refine Cut.map (fun _ => rfl) ?_ ?_ | refine Fork.yes (by assumption) ?_ | refine Fork.no (by assumption) ?_ | refine Fork.decYes (by omega) ?_ | refine Fork.decNo (by omega) ?_ | refine Fork.dec (fun _ => ?_) (fun _ => ?_) | refine Fork.bne (fun _ => ?_) (fun _ => ?_) | refine Fork.beq (fun _ => ?_) (fun _ => ?_) | refine Fork.seq (fun _ => ?_) (fun _ => ?_) | refine Fork.sne (fun _ => ?_) (fun _ => ?_) | refine Fork.neg (fun _ => ?_) (fun _ => ?_) | refine Fork.mk (fun _ => ?_) (fun _ => ?_) | refine HAlt.mk ?_ ?_ | apply HJoin.mk3 | exact HEnd.mk rfl rfl rfl | refine HEnd.mk ?_ ?_ ?_ | refine Round.mk ?_ | refine NilQ.mk (fun b hb => ?_) | refine forceK_of ?_ | refine forceBx_of ?_ | refine unG_old ?_ | refine unG_gv ?_ | refine Lit.read rfl ?_ | refine FinVal.keep ?_ | refine FinAgg.keep ?_ | refine Final.mk rfl rfl | refine Final.mk ?_ rfl | refine Final.mk ?_ ?_ | refine FinalT.mk ?_ ?_ | refine FinalC.allA ?_)
    | refine AV.bool_congr ?_ | refine AV.int_congr ?_ | refine AV.str_congr ?_ | refine AV.list_congr ?_ | with_reducible rfl | refine fr1 ?_ | refine fr2 ?_ ?_
  · rename_i h1
    rw [length_rows] at h1
    rw [bindF_long (by omega)]
  rename_i h6
  rw [length_rows] at h6
  repeat' first
    | contradiction | exact trivial
    | (conv => whnf
       first | refine Need.mk (fun h => h) ?_ | refine Need.mk rfl ?_ | refine Need.mk ⟨rfl, Nat.le_of_ble_eq_true rfl⟩ ?_ | refine Need.mk (Nat.le_of_ble_eq_true rfl) ?_ | refine Need.fin ?_ | refine Need.mk ?_ ?_ | refine Ix.strsF rfl ?_ | refine Ix.strs rfl ?_ ?_ | refine Cut.strs rfl ?_ ?_ | refine Ix.mapF (fun _ => rfl) ?_ | refine Ix.map (fun _ => rfl) ?_ ?_ | refine Cut.map (fun _ => rfl) ?_ ?_ | refine Fork.yes (by assumption) ?_ | refine Fork.no (by assumption) ?_ | refine Fork.decYes (by omega) ?_ | refine Fork.decNo (by omega) ?_ | refine Fork.dec (fun _ => ?_) (fun _ => ?_) | refine Fork.bne (fun _ => ?_) (fun _ => ?_) | refine Fork.beq (fun _ => ?_) (fun _ => ?_) | refine Fork.seq (fun _ => ?_) (fun _ => ?_) | refine Fork.sne (fun _ => ?_) (fun _ => ?_) | refine Fork.neg (fun _ => ?_) (fun _ => ?_) | refine Fork.mk (fun _ => ?_) (fun _ => ?_) | refine HAlt.mk ?_ ?_ | apply HJoin.mk3 | exact HEnd.mk rfl rfl rfl | refine HEnd.mk ?_ ?_ ?_ | refine Round.mk ?_ | refine NilQ.mk (fun b hb => ?_) | refine forceK_of ?_ | refine forceBx_of ?_ | refine unG_old ?_ | refine unG_gv ?_ | refine Lit.read rfl ?_ | refine FinVal.keep ?_ | refine FinAgg.keep ?_ | refine Final.mk rfl rfl | refine Final.mk ?_ rfl | refine Final.mk ?_ ?_ | refine FinalT.mk ?_ ?_ | refine FinalC.allA ?_)
    | refine AV.bool_congr ?_ | refine AV.int_congr ?_ | refine AV.str_congr ?_ | refine AV.list_congr ?_ | with_reducible rfl | refine fr1 ?_ | refine fr2 ?_ ?_
  refine ALoop.mk Nat (fun i => ⟨[(0, .list none (pairs b)), (8, .list none (pairs b)), (9, .val (.int .i64 b.length)), (10, .val (.int .i64 i))], [], []⟩) (fun i => i ≤ b.length ∧ ∀ j, j < i → badB b j = false) (fun i => b.length - i) ⟨0, ⟨Nat.zero_le _, by omega⟩, ?_⟩ (fun i hi => ?_)
  · repeat' first
      | exact trivial | refine Weak.mk ?_ ?_ ?_ ?_ (Or.inl (Nat.le_of_ble_eq_true rfl)) | refine Weak.mk ?_ ?_ ?_ ?_ (Or.inr ⟨(by repeat' first | exact trivial | exact Nat.le_of_ble_eq_true rfl | refine And.intro ?_ ?_), (by repeat' first | exact trivial | exact Nat.le_of_ble_eq_true rfl | refine And.intro ?_ ?_)⟩) | refine Weak.mk ?_ ?_ ?_ ?_ ?_ | refine And.intro ?_ ?_ | with_reducible rfl | exact Nat.le_of_ble_eq_true rfl | refine fr1 ?_ | refine fr2 ?_ ?_ | refine AV.int_congr ?_ | refine AV.bool_congr ?_ | refine AV.str_congr ?_ | refine AV.list_congr ?_ | refine AV.bsl_congr ?_ ?_ | (apply rfl)
    simp
  have hw : i < b.length → IntKind.i64.wrap ((i : Int) - 1) = (i : Int) - 1 := fun h => wrap64 (by omega) (by omega)
  have hp := pr_le (l := b) i
  have hp' := pr_le (l := b) (i - 1)
  repeat' first
    | contradiction | exact trivial
    | (conv => whnf
       first | refine Need.mk (fun h => h) ?_ | refine Need.mk rfl ?_ | refine Need.mk ⟨rfl, Nat.le_of_ble_eq_true rfl⟩ ?_ | refine Need.mk (Nat.le_of_ble_eq_true rfl) ?_ | refine Need.fin ?_ | refine Need.mk ?_ ?_ | refine Ix.strsF rfl ?_ | refine Ix.strs rfl ?_ ?_ | refine Cut.strs rfl ?_ ?_ | refine Ix.mapF (fun _ => rfl) ?_ | refine Ix.map (fun _ => rfl) ?_ ?_ | refine Cut.map (fun _ => rfl) ?_ ?_ | refine Fork.yes (by assumption) ?_ | refine Fork.no (by assumption) ?_ | refine Fork.decYes (by omega) ?_ | refine Fork.decNo (by omega) ?_ | refine Fork.dec (fun _ => ?_) (fun _ => ?_) | refine Fork.bne (fun _ => ?_) (fun _ => ?_) | refine Fork.beq (fun _ => ?_) (fun _ => ?_) | refine Fork.seq (fun _ => ?_) (fun _ => ?_) | refine Fork.sne (fun _ => ?_) (fun _ => ?_) | refine Fork.neg (fun _ => ?_) (fun _ => ?_) | refine Fork.mk (fun _ => ?_) (fun _ => ?_) | refine HAlt.mk ?_ ?_ | apply HJoin.mk3 | exact HEnd.mk rfl rfl rfl | refine HEnd.mk ?_ ?_ ?_ | refine Round.mk ?_ | refine NilQ.mk (fun b hb => ?_) | refine forceK_of ?_ | refine forceBx_of ?_ | refine unG_old ?_ | refine unG_gv ?_ | refine Lit.read rfl ?_ | refine FinVal.keep ?_ | refine FinAgg.keep ?_ | refine Final.mk rfl rfl | refine Final.mk ?_ rfl | refine Final.mk ?_ ?_ | refine FinalT.mk ?_ ?_ | refine FinalC.allA ?_ | refine ACall.scalA _ _ (pIsVar.ret _ ?_) rfl ?_ | refine AQCall.mkA _ _ (fun hg => pIsVar.ret _ ?_) rfl ?_ | refine ACall.scalA _ _ (pIsAtom.ret _ ?_) rfl ?_ | refine AQCall.mkA _ _ (fun hg => pIsAtom.ret _ ?_) rfl ?_)
    | refine AV.bool_congr ?_ | refine AV.int_congr ?_ | refine AV.str_congr ?_ | refine AV.list_congr ?_ | with_reducible rfl | refine fr1 ?_ | refine fr2 ?_ ?_
  all_goals try simp only [length_rows, length_strs, length_oldLL, List.length_map, Int.toNat_natCast] at *
  all_goals try omega
  · rename_i h2 h1
    rw [badB_step (hw (by omega))] at h1
    rw [bindF_no (by omega) h1]
  · rename_i h2 h1
    rw [badB_step (hw (by omega))] at h1
    refine ⟨i + 1, ⟨by omega, fun j hj => ?_⟩, ?_, by omega⟩
    · rcases Nat.lt_or_ge j i with h | h
      · exact hi.2 j h
      · have : j = i := by omega
        subst this; exact h1
    · repeat' first
        | exact trivial | refine Weak.mk ?_ ?_ ?_ ?_ (Or.inl (Nat.le_of_ble_eq_true rfl)) | refine Weak.mk ?_ ?_ ?_ ?_ (Or.inr ⟨(by repeat' first | exact trivial | exact Nat.le_of_ble_eq_true rfl | refine And.intro ?_ ?_), (by repeat' first | exact trivial | exact Nat.le_of_ble_eq_true rfl | refine And.intro ?_ ?_)⟩) | refine Weak.mk ?_ ?_ ?_ ?_ ?_ | refine And.intro ?_ ?_ | with_reducible rfl | exact Nat.le_of_ble_eq_true rfl | refine fr1 ?_ | refine fr2 ?_ ?_ | refine AV.int_congr ?_ | refine AV.bool_congr ?_ | refine AV.str_congr ?_ | refine AV.list_congr ?_ | refine AV.bsl_congr ?_ ?_ | (apply rfl)
      rw [wrap64 (by omega) (by omega)]; rfl
  · rw [bindF_yes (fun j hj => hi.2 j (by omega))]; simp; omega
def lookV : List VPair → Str → Option Str
  | [], _ => none
  | p :: b, t => if p.1 = t then some p.2 else lookV b t
theorem lookV_drop {b : List VPair} {t : Str} {i : Nat} (hi : i < b.length) : lookV (b.drop i) t = if (b.getD i default).1 = t then some (b.getD i default).2 else lookV (b.drop (i + 1)) t := by
  rw [List.drop_eq_getElem_cons hi, lookV]
  simp [List.getD, hi]
@[irreducible] def valF (b : List VPair) (t : Str) : Str × Bool := if atomF t then (t, true) else if varF t then (match lookV b t with | some v => (v, true) | none => ([], false)) else ([], false)
theorem valF_hit {b : List VPair} {t v : Str} (h1 : atomF t = false) (h2 : varF t = true) (h : lookV b t = some v) : valF b t = (v, true) := by
  unfold valF; rw [if_neg (by simp [h1]), if_pos h2, h]
theorem valF_miss {b : List VPair} {t : Str} (h1 : atomF t = false) (h : varF t = true → lookV b t = none) : valF b t = ([], false) := by
  unfold valF; rw [if_neg (by simp [h1])]
  split
  · rename_i hv; rw [h hv]
  · rfl
theorem sValueOf.ret (b : List VPair) (t : Str) (h : tPairs.size b ≤ 1048576) (ht : t.length ≤ 1048576) : sValueOf.Ret [.list none (pairs b), .str t] (.tup [.str (valF b t).1, .val (.bool (valF b t).2)]) [] := by
  refine sValueOf.ofS rfl rfl ?_
  rw [tPairs_sz] at h
  repeat' first
    | contradiction | exact trivial
    | (conv => whnf
       first | refine Need.mk (fun h => h) ?_ | refine Need.mk rfl ?_ | refine Need.mk ⟨rfl, Nat.le_of_ble_eq_true rfl⟩ ?_ | refine Need.mk (Nat.le_of_ble_eq_true rfl) ?_ | refine Need.fin ?_ | refine Need.mk ?_ ?_ | refine Ix.strsF rfl ?_ | refine Ix.strs rfl ?_ ?_ | refine Cut.strs rfl ?_ ?_ | refine Ix.mapF (fun _ => rfl) ?_ | refine Ix.map (fun _ => rfl) ?_ ?_ | refine Cut.map (fun _ => rfl) ?_ ?_ | refine Fork.yes (by assumption) ?_ | refine Fork.no (by assumption) ?_ | refine Fork.decYes (by omega) ?_ | refine Fork.decNo (by omega) ?_ | refine Fork.dec (fun _ => ?_) (fun _ => ?_) | refine Fork.bne (fun _ => ?_) (fun _ => ?_) | refine Fork.beq (fun _ => ?_) (fun _ => ?_) | refine Fork.seq (fun _ => ?_) (fun _ => ?_) | refine Fork.sne (fun _ => ?_) (fun _ => ?_) | refine Fork.neg (fun _ => ?_) (fun _ => ?_) | refine Fork.mk (fun _ => ?_) (fun _ => ?_) | refine HAlt.mk ?_ ?_ | apply HJoin.mk3 | exact HEnd.mk rfl rfl rfl | refine HEnd.mk ?_ ?_ ?_ | refine Round.mk ?_ | refine NilQ.mk (fun b hb => ?_) | refine forceK_of ?_ | refine forceBx_of ?_ | refine unG_old ?_ | refine unG_gv ?_ | refine Lit.read rfl ?_ | refine FinVal.keep ?_ | refine FinAgg.keep ?_ | refine Final.mk rfl rfl | refine Final.mk ?_ rfl | refine Final.mk ?_ ?_ | refine FinalT.mk ?_ ?_ | refine FinalC.allA ?_ | refine ACall.scalA _ _ (sIsAtom.ret _ ?_) rfl ?_ | refine AQCall.mkA _ _ (fun hg => sIsAtom.ret _ ?_) rfl ?_)
    | refine AV.bool_congr ?_ | refine AV.int_congr ?_ | refine AV.str_congr ?_ | refine AV.list_congr ?_ | with_reducible rfl | refine fr1 ?_ | refine fr2 ?_ ?_
  · exact ht
  · rename_i h1; unfold valF; rw [if_pos h1]
  rename_i h1
  refine ALoop.mk Nat (fun i => ⟨[(0, .list none (pairs b)), (1, .str t), (6, .val (.int .i64 i))], [], []⟩) (fun i => i ≤ b.length ∧ (varF t = true → lookV (b.drop i) t = lookV b t)) (fun i => b.length - i) ⟨0, ⟨Nat.zero_le _, fun _ => rfl⟩, ?_⟩ (fun i hi => ?_)
  · repeat' first
      | exact trivial | refine Weak.mk ?_ ?_ ?_ ?_ (Or.inl (Nat.le_of_ble_eq_true rfl)) | refine Weak.mk ?_ ?_ ?_ ?_ (Or.inr ⟨(by repeat' first | exact trivial | exact Nat.le_of_ble_eq_true rfl | refine And.intro ?_ ?_), (by repeat' first | exact trivial | exact Nat.le_of_ble_eq_true rfl | refine And.intro ?_ ?_)⟩) | refine Weak.mk ?_ ?_ ?_ ?_ ?_ | refine And.intro ?_ ?_ | with_reducible rfl | exact Nat.le_of_ble_eq_true rfl | refine fr1 ?_ | refine fr2 ?_ ?_ | refine AV.int_congr ?_ | refine AV.bool_congr ?_ | refine AV.str_congr ?_ | refine AV.list_congr ?_ | refine AV.bsl_congr ?_ ?_ | (apply rfl)
  repeat' first
    | contradiction | exact trivial
    | (conv => whnf
       first | refine Need.mk (fun h => h) ?_ | refine Need.mk rfl ?_ | refine Need.mk ⟨rfl, Nat.le_of_ble_eq_true rfl⟩ ?_ | refine Need.mk (Nat.le_of_ble_eq_true rfl) ?_ | refine Need.fin ?_ | refine Need.mk ?_ ?_ | refine Ix.strsF rfl ?_ | refine Ix.strs rfl ?_ ?_ | refine Cut.strs rfl ?_ ?_ | refine Ix.mapF (fun _ => rfl) ?_ | refine Ix.map (fun _ => rfl) ?_ ?_ | refine Cut.map (fun _ => rfl) ?_ ?_ | refine Fork.yes (by assumption) ?_ | refine Fork.no (by assumption) ?_ | refine Fork.decYes (by omega) ?_ | refine Fork.decNo (by omega) ?_ | refine Fork.dec (fun _ => ?_) (fun _ => ?_) | refine Fork.bne (fun _ => ?_) (fun _ => ?_) | refine Fork.beq (fun _ => ?_) (fun _ => ?_) | refine Fork.seq (fun _ => ?_) (fun _ => ?_) | refine Fork.sne (fun _ => ?_) (fun _ => ?_) | refine Fork.neg (fun _ => ?_) (fun _ => ?_) | refine Fork.mk (fun _ => ?_) (fun _ => ?_) | refine HAlt.mk ?_ ?_ | apply HJoin.mk3 | exact HEnd.mk rfl rfl rfl | refine HEnd.mk ?_ ?_ ?_ | refine Round.mk ?_ | refine NilQ.mk (fun b hb => ?_) | refine forceK_of ?_ | refine forceBx_of ?_ | refine unG_old ?_ | refine unG_gv ?_ | refine Lit.read rfl ?_ | refine FinVal.keep ?_ | refine FinAgg.keep ?_ | refine Final.mk rfl rfl | refine Final.mk ?_ rfl | refine Final.mk ?_ ?_ | refine FinalT.mk ?_ ?_ | refine FinalC.allA ?_ | refine ACall.scalA _ _ (sIsVar.ret _ ?_) rfl ?_ | refine AQCall.mkA _ _ (fun hg => sIsVar.ret _ ?_) rfl ?_)
    | refine AV.bool_congr ?_ | refine AV.int_congr ?_ | refine AV.str_congr ?_ | refine AV.list_congr ?_ | with_reducible rfl | refine fr1 ?_ | refine fr2 ?_ ?_
  all_goals try simp only [length_rows, length_strs, length_oldLL, List.length_map, Int.toNat_natCast] at *
  · exact ht
  · rename_i h2 h3
    simp only [Bool.and_eq_true, beq_iff_eq] at h2
    have h4 := lookV_drop (b := b) (t := t) (i := i) (by omega)
    rw [if_pos h2.1, hi.2 h2.2] at h4
    rw [valF_hit h1 h2.2 h4]
  · rename_i h2 h3
    have h4 := lookV_drop (b := b) (t := t) (i := i) (by omega)
    refine ⟨i + 1, ⟨by omega, fun hv => ?_⟩, ?_, by omega⟩
    · rw [hv] at h2
      rw [if_neg (by simpa using h2), hi.2 hv] at h4
      exact h4.symm
    repeat' first
      | exact trivial | refine Weak.mk ?_ ?_ ?_ ?_ (Or.inl (Nat.le_of_ble_eq_true rfl)) | refine Weak.mk ?_ ?_ ?_ ?_ (Or.inr ⟨(by repeat' first | exact trivial | exact Nat.le_of_ble_eq_true rfl | refine And.intro ?_ ?_), (by repeat' first | exact trivial | exact Nat.le_of_ble_eq_true rfl | refine And.intro ?_ ?_)⟩) | refine Weak.mk ?_ ?_ ?_ ?_ ?_ | refine And.intro ?_ ?_ | with_reducible rfl | exact Nat.le_of_ble_eq_true rfl | refine fr1 ?_ | refine fr2 ?_ ?_ | refine AV.int_congr ?_ | refine AV.bool_congr ?_ | refine AV.str_congr ?_ | refine AV.list_congr ?_ | refine AV.bsl_congr ?_ ?_ | (apply rfl)
    rw [wrap64 (by omega) (by omega)]; rfl
  · rw [valF_miss h1 (fun hv => by rw [← hi.2 hv, List.drop_eq_nil_of_le (by omega)]; rfl)]
theorem pValueOf.ret (b : List VPair) (t : Str) (h : tPairs.size b ≤ 1048576) (ht : t.length ≤ 1048576) : pValueOf.Ret [.list none (pairs b), .str t] (.tup [.str (valF b t).1, .val (.bool (valF b t).2)]) [] := by
  refine pValueOf.ofS rfl rfl ?_
  rw [tPairs_sz] at h
  repeat' first
    | contradiction | exact trivial
    | (conv => whnf
       first | refine Need.mk (fun h => h) ?_ | refine Need.mk rfl ?_ | refine Need.mk ⟨rfl, Nat.le_of_ble_eq_true rfl⟩ ?_ | refine Need.mk (Nat.le_of_ble_eq_true rfl) ?_ | refine Need.fin ?_ | refine Need.mk ?_ ?_ | refine Ix.strsF rfl ?_ | refine Ix.strs rfl ?_ ?_ | refine Cut.strs rfl ?_ ?_ | refine Ix.mapF (fun _ => rfl) ?_ | refine Ix.map (fun _ => rfl) ?_ ?_ | refine Cut.map (fun _ => rfl) ?_ ?_ | refine Fork.yes (by assumption) ?_ | refine Fork.no (by assumption) ?_ | refine Fork.decYes (by omega) ?_ | refine Fork.decNo (by omega) ?_ | refine Fork.dec (fun _ => ?_) (fun _ => ?_) | refine Fork.bne (fun _ => ?_) (fun _ => ?_) | refine Fork.beq (fun _ => ?_) (fun _ => ?_) | refine Fork.seq (fun _ => ?_) (fun _ => ?_) | refine Fork.sne (fun _ => ?_) (fun _ => ?_) | refine Fork.neg (fun _ => ?_) (fun _ => ?_) | refine Fork.mk (fun _ => ?_) (fun _ => ?_) | refine HAlt.mk ?_ ?_ | apply HJoin.mk3 | exact HEnd.mk rfl rfl rfl | refine HEnd.mk ?_ ?_ ?_ | refine Round.mk ?_ | refine NilQ.mk (fun b hb => ?_) | refine forceK_of ?_ | refine forceBx_of ?_ | refine unG_old ?_ | refine unG_gv ?_ | refine Lit.read rfl ?_ | refine FinVal.keep ?_ | refine FinAgg.keep ?_ | refine Final.mk rfl rfl | refine Final.mk ?_ rfl | refine Final.mk ?_ ?_ | refine FinalT.mk ?_ ?_ | refine FinalC.allA ?_ | refine ACall.scalA _ _ (pIsAtom.ret _ ?_) rfl ?_ | refine AQCall.mkA _ _ (fun hg => pIsAtom.ret _ ?_) rfl ?_ | refine ACall.scalA _ _ (pIsVar.ret _ ?_) rfl ?_ | refine AQCall.mkA _ _ (fun hg => pIsVar.ret _ ?_) rfl ?_)
    | refine AV.bool_congr ?_ | refine AV.int_congr ?_ | refine AV.str_congr ?_ | refine AV.list_congr ?_ | with_reducible rfl | refine fr1 ?_ | refine fr2 ?_ ?_
  · exact ht
  · rename_i h1; unfold valF; rw [if_pos h1]
  · exact ht
  · rename_i h1 h2; unfold valF; rw [if_neg (by simpa using h1), if_neg (by simpa using h2)]
  rename_i h1 h2
  refine ALoop.mk Nat (fun i => ⟨[(0, .list none (pairs b)), (1, .str t), (14, .list none (pairs b)), (15, .val (.int .i64 b.length)), (16, .val (.int .i64 i))], [], []⟩) (fun i => i ≤ b.length ∧ lookV (b.drop i) t = lookV b t) (fun i => b.length - i) ⟨0, ⟨Nat.zero_le _, rfl⟩, ?_⟩ (fun i hi => ?_)
  · repeat' first
      | exact trivial | refine Weak.mk ?_ ?_ ?_ ?_ (Or.inl (Nat.le_of_ble_eq_true rfl)) | refine Weak.mk ?_ ?_ ?_ ?_ (Or.inr ⟨(by repeat' first | exact trivial | exact Nat.le_of_ble_eq_true rfl | refine And.intro ?_ ?_), (by repeat' first | exact trivial | exact Nat.le_of_ble_eq_true rfl | refine And.intro ?_ ?_)⟩) | refine Weak.mk ?_ ?_ ?_ ?_ ?_ | refine And.intro ?_ ?_ | with_reducible rfl | exact Nat.le_of_ble_eq_true rfl | refine fr1 ?_ | refine fr2 ?_ ?_ | refine AV.int_congr ?_ | refine AV.bool_congr ?_ | refine AV.str_congr ?_ | refine AV.list_congr ?_ | refine AV.bsl_congr ?_ ?_ | (apply rfl)
    simp
  repeat' first
    | contradiction | exact trivial
    | (conv => whnf
       first | refine Need.mk (fun h => h) ?_ | refine Need.mk rfl ?_ | refine Need.mk ⟨rfl, Nat.le_of_ble_eq_true rfl⟩ ?_ | refine Need.mk (Nat.le_of_ble_eq_true rfl) ?_ | refine Need.fin ?_ | refine Need.mk ?_ ?_ | refine Ix.strsF rfl ?_ | refine Ix.strs rfl ?_ ?_ | refine Cut.strs rfl ?_ ?_ | refine Ix.mapF (fun _ => rfl) ?_ | refine Ix.map (fun _ => rfl) ?_ ?_ | refine Cut.map (fun _ => rfl) ?_ ?_ | refine Fork.yes (by assumption) ?_ | refine Fork.no (by assumption) ?_ | refine Fork.decYes (by omega) ?_ | refine Fork.decNo (by omega) ?_ | refine Fork.dec (fun _ => ?_) (fun _ => ?_) | refine Fork.bne (fun _ => ?_) (fun _ => ?_) | refine Fork.beq (fun _ => ?_) (fun _ => ?_) | refine Fork.seq (fun _ => ?_) (fun _ => ?_) | refine Fork.sne (fun _ => ?_) (fun _ => ?_) | refine Fork.neg (fun _ => ?_) (fun _ => ?_) | refine Fork.mk (fun _ => ?_) (fun _ => ?_) | refine HAlt.mk ?_ ?_ | apply HJoin.mk3 | exact HEnd.mk rfl rfl rfl | refine HEnd.mk ?_ ?_ ?_ | refine Round.mk ?_ | refine NilQ.mk (fun b hb => ?_) | refine forceK_of ?_ | refine forceBx_of ?_ | refine unG_old ?_ | refine unG_gv ?_ | refine Lit.read rfl ?_ | refine FinVal.keep ?_ | refine FinAgg.keep ?_ | refine Final.mk rfl rfl | refine Final.mk ?_ rfl | refine Final.mk ?_ ?_ | refine FinalT.mk ?_ ?_ | refine FinalC.allA ?_)
    | refine AV.bool_congr ?_ | refine AV.int_congr ?_ | refine AV.str_congr ?_ | refine AV.list_congr ?_ | with_reducible rfl | refine fr1 ?_ | refine fr2 ?_ ?_
  all_goals try simp only [length_rows, length_strs, length_oldLL, List.length_map, Int.toNat_natCast] at *
  · rename_i h3 h4
    have h5 := lookV_drop (b := b) (t := t) (i := i) (by omega)
    rw [if_pos h4, hi.2] at h5
    rw [valF_hit h1 h2 h5]
  · rename_i h3 h4
    have h5 := lookV_drop (b := b) (t := t) (i := i) (by omega)
    rw [if_neg h4, hi.2] at h5
    refine ⟨i + 1, ⟨by omega, h5.symm⟩, ?_, by omega⟩
    repeat' first
      | exact trivial | refine Weak.mk ?_ ?_ ?_ ?_ (Or.inl (Nat.le_of_ble_eq_true rfl)) | refine Weak.mk ?_ ?_ ?_ ?_ (Or.inr ⟨(by repeat' first | exact trivial | exact Nat.le_of_ble_eq_true rfl | refine And.intro ?_ ?_), (by repeat' first | exact trivial | exact Nat.le_of_ble_eq_true rfl | refine And.intro ?_ ?_)⟩) | refine Weak.mk ?_ ?_ ?_ ?_ ?_ | refine And.intro ?_ ?_ | with_reducible rfl | exact Nat.le_of_ble_eq_true rfl | refine fr1 ?_ | refine fr2 ?_ ?_ | refine AV.int_congr ?_ | refine AV.bool_congr ?_ | refine AV.str_congr ?_ | refine AV.list_congr ?_ | refine AV.bsl_congr ?_ ?_ | (apply rfl)
    rw [wrap64 (by omega) (by omega)]; rfl
  · rw [valF_miss h1 (fun _ => by rw [← hi.2, List.drop_eq_nil_of_le (by omega)]; rfl)]
theorem pSamePattern.ret (f g : VPattern) (h : tPattern.size f ≤ 1048576) : pSamePattern.Ret [.agg (oldL (tPattern.q f)), .agg (oldL (tPattern.q g))] (.val (.bool (decide (f = g)))) [] := by
  refine pSamePattern.of rfl ?_
  have h : tFct.size f ≤ 1048576 := h
  rw [tFct_size, tStrs_size] at h
  repeat' first
    | contradiction | exact trivial
    | (conv => whnf
       first | refine Need.mk (fun h => h) ?_ | refine Need.mk rfl ?_ | refine Need.mk ⟨rfl, Nat.le_of_ble_eq_true rfl⟩ ?_ | refine Need.mk (Nat.le_of_ble_eq_true rfl) ?_ | refine Need.fin ?_ | refine Need.mk ?_ ?_ | refine Ix.strsF rfl ?_ | refine Ix.strs rfl ?_ ?_ | refine Cut.strs rfl ?_ ?_ | refine Ix.mapF (fun _ => rfl) ?_ | refine Ix.map (fun _ => rfl) ?_ ?_ | refine Cut.map (fun _ => rfl) ?_ ?_ | refine Fork.yes (by assumption) ?_ | refine Fork.no (by assumption) ?_ | refine Fork.decYes (by omega) ?_ | refine Fork.decNo (by omega) ?_ | refine Fork.dec (fun _ => ?_) (fun _ => ?_) | refine Fork.bne (fun _ => ?_) (fun _ => ?_) | refine Fork.beq (fun _ => ?_) (fun _ => ?_) | refine Fork.seq (fun _ => ?_) (fun _ => ?_) | refine Fork.sne (fun _ => ?_) (fun _ => ?_) | refine Fork.neg (fun _ => ?_) (fun _ => ?_) | refine Fork.mk (fun _ => ?_) (fun _ => ?_) | refine HAlt.mk ?_ ?_ | apply HJoin.mk3 | exact HEnd.mk rfl rfl rfl | refine HEnd.mk ?_ ?_ ?_ | refine Round.mk ?_ | refine NilQ.mk (fun b hb => ?_) | refine forceK_of ?_ | refine forceBx_of ?_ | refine unG_old ?_ | refine unG_gv ?_ | refine Lit.read rfl ?_ | refine FinVal.keep ?_ | refine FinAgg.keep ?_ | refine Final.mk rfl rfl | refine Final.mk ?_ rfl | refine Final.mk ?_ ?_ | refine FinalT.mk ?_ ?_ | refine FinalC.allA ?_ | refine ACall.scalA _ _ (slEqual.ret _ _ ?_) rfl ?_ | refine AQCall.mkA _ _ (fun hg => slEqual.ret _ _ ?_) rfl ?_)
    | refine AV.bool_congr ?_ | refine AV.int_congr ?_ | refine AV.str_congr ?_ | refine AV.list_congr ?_ | with_reducible rfl | refine fr1 ?_ | refine fr2 ?_ ?_
  · omega
  · obtain ⟨r, l⟩ := f; obtain ⟨r', l'⟩ := g
    rw [Bool.eq_iff_iff]; simp
end Go.Proofs.YtfffboofmccfhaaGreat
namespace Go.Proofs.YtfffboofmccfhaaGreat
open Abs
def testKind (k : Int) : Bool := k == 3 || k == 4 || k == 5
def zeroP (p : VPattern) : Bool := p.1 == [] && (p.2.length : Int) == 0
def isTestF (x : VCond) : Bool := testKind x.1 && (zeroP x.2.1 && termF x.2.2.1 && termF x.2.2.2)
def hasKind (k : Int) : Bool := k == 1 || k == 2
def isCondF (x : VCond) : Bool := if hasKind x.1 then isPatF x.2.1 && x.2.2.1 == [] && x.2.2.2 == [] else isTestF x
theorem tCond_sz (x : VCond) : tCond.size x = x.2.1.1.length + (x.2.1.2.length + listSize Ty.str x.2.1.2) + (x.2.2.1.length + x.2.2.2.length) := by
  have h : tCond.size x = 0 + (tFct.size x.2.1 + (x.2.2.1.length + x.2.2.2.length)) := rfl
  rw [h, tFct_size, tStrs_size]; omega
theorem tCond_pat (x : VCond) : tPattern.size x.2.1 ≤ tCond.size x := by
  have h : tCond.size x = 0 + (tPattern.size x.2.1 + (x.2.2.1.length + x.2.2.2.length)) := rfl
  omega
theorem zero_pat (p : VPattern) : decide (p = ([], [])) = zeroP p := by
  obtain ⟨r, l⟩ := p
  rw [Bool.eq_iff_iff]; simp [zeroP]
theorem cond_has {x : VCond} (h : hasKind x.1 = true) : (isPatF x.2.1 && x.2.2.1 == [] && x.2.2.2 == []) = isCondF x := by rw [isCondF, if_pos h]
theorem cond_test {x : VCond} (h : hasKind x.1 = false) (h' : testKind x.1 = true) : (zeroP x.2.1 && termF x.2.2.1 && termF x.2.2.2) = isCondF x := by
  rw [isCondF, if_neg (by simp [h]), isTestF, h']; simp
theorem cond_no {x : VCond} (h : hasKind x.1 = false) (h' : testKind x.1 = false) : false = isCondF x := by
  rw [isCondF, if_neg (by simp [h]), isTestF, h']; simp
theorem test_ge (x : VCond) : (isCondF x && decide (3 ≤ x.1)) = isTestF x := by
  unfold isCondF
  cases h : hasKind x.1
  · rw [if_neg (by simp)]
    cases h' : testKind x.1
    · unfold isTestF; rw [h']; simp
    · have : 3 ≤ x.1 := by simp only [testKind, Bool.or_eq_true, beq_iff_eq] at h'; omega
      simp [this]
  · simp only [hasKind, Bool.or_eq_true, beq_iff_eq] at h
    have h1 : ¬ 3 ≤ x.1 := by omega
    have h2 : testKind x.1 = false := by
      simp only [testKind, Bool.or_eq_false_iff, beq_eq_false_iff_ne]; omega
    simp [isTestF, h1, h2]
theorem pcomparisons.ret : pcomparisons.Ret [] (.list (some 0) [[.val (.int .i64 3), .str [61], .clo 80 [] []], [.val (.int .i64 4), .str [33, 61], .clo 81 [] []], [.val (.int .i64 5), .str [60], .clo 82 [] []]]) [(75, 3, 3)] := by
  refine pcomparisons.of rfl ?_
  repeat' first
    | contradiction | exact trivial
    | (conv => whnf
       first | refine Need.mk (fun h => h) ?_ | refine Need.mk rfl ?_ | refine Need.mk ⟨rfl, Nat.le_of_ble_eq_true rfl⟩ ?_ | refine Need.mk (Nat.le_of_ble_eq_true rfl) ?_ | refine Need.fin ?_ | refine Need.mk ?_ ?_ | refine Ix.strsF rfl ?_ | refine Ix.strs rfl ?_ ?_ | refine Cut.strs rfl ?_ ?_ | refine Ix.mapF (fun _ => rfl) ?_ | refine Ix.map (fun _ => rfl) ?_ ?_ | refine Cut.map (fun _ => rfl) ?_ ?_ | refine Fork.yes (by assumption) ?_ | refine Fork.no (by assumption) ?_ | refine Fork.decYes (by omega) ?_ | refine Fork.decNo (by omega) ?_ | refine Fork.dec (fun _ => ?_) (fun _ => ?_) | refine Fork.bne (fun _ => ?_) (fun _ => ?_) | refine Fork.beq (fun _ => ?_) (fun _ => ?_) | refine Fork.seq (fun _ => ?_) (fun _ => ?_) | refine Fork.sne (fun _ => ?_) (fun _ => ?_) | refine Fork.neg (fun _ => ?_) (fun _ => ?_) | refine Fork.mk (fun _ => ?_) (fun _ => ?_) | refine HAlt.mk ?_ ?_ | apply HJoin.mk3 | exact HEnd.mk rfl rfl rfl | refine HEnd.mk ?_ ?_ ?_ | refine Round.mk ?_ | refine NilQ.mk (fun b hb => ?_) | refine forceK_of ?_ | refine forceBx_of ?_ | refine unG_old ?_ | refine unG_gv ?_ | refine Lit.read rfl ?_ | refine FinVal.keep ?_ | refine FinAgg.keep ?_ | refine Final.mk rfl rfl | refine Final.mk ?_ rfl | refine Final.mk ?_ ?_ | refine FinalT.mk ?_ ?_ | refine FinalC.allA ?_)
    | refine AV.bool_congr ?_ | refine AV.int_congr ?_ | refine AV.str_congr ?_ | refine AV.list_congr ?_ | with_reducible rfl | refine fr1 ?_ | refine fr2 ?_ ?_
def cmpRows : List (List AV) := [[.val (.int .i64 3), .str [61], .clo 80 [] []], [.val (.int .i64 4), .str [33, 61], .clo 81 [] []], [.val (.int .i64 5), .str [60], .clo 82 [] []]]
def cmpRow (k : Int) : List AV := if k = 3 then [.val (.int .i64 3), .str [61], .clo 80 [] []] else if k = 4 then [.val (.int .i64 4), .str [33, 61], .clo 81 [] []] else if k = 5 then [.val (.int .i64 5), .str [60], .clo 82 [] []] else [.val (.int .i64 0), .str [], .val .nilFunc]
set_option maxHeartbeats 1000000 in
theorem pcomparisonOf.ret (k : Int) : pcomparisonOf.Ret [.val (.int .i64 k)] (.tup [.agg (cmpRow k), .val (.bool (testKind k))]) [(75, 3, 3)] := by
  refine pcomparisonOf.of rfl ?_
  repeat' first
    | contradiction | exact trivial
    | (conv => whnf
       first | refine Need.mk (fun h => h) ?_ | refine Need.mk rfl ?_ | refine Need.mk ⟨rfl, Nat.le_of_ble_eq_true rfl⟩ ?_ | refine Need.mk (Nat.le_of_ble_eq_true rfl) ?_ | refine Need.fin ?_ | refine Need.mk ?_ ?_ | refine Ix.strsF rfl ?_ | refine Ix.strs rfl ?_ ?_ | refine Cut.strs rfl ?_ ?_ | refine Ix.mapF (fun _ => rfl) ?_ | refine Ix.map (fun _ => rfl) ?_ ?_ | refine Cut.map (fun _ => rfl) ?_ ?_ | refine Fork.yes (by assumption) ?_ | refine Fork.no (by assumption) ?_ | refine Fork.decYes (by omega) ?_ | refine Fork.decNo (by omega) ?_ | refine Fork.dec (fun _ => ?_) (fun _ => ?_) | refine Fork.bne (fun _ => ?_) (fun _ => ?_) | refine Fork.beq (fun _ => ?_) (fun _ => ?_) | refine Fork.seq (fun _ => ?_) (fun _ => ?_) | refine Fork.sne (fun _ => ?_) (fun _ => ?_) | refine Fork.neg (fun _ => ?_) (fun _ => ?_) | refine Fork.mk (fun _ => ?_) (fun _ => ?_) | refine HAlt.mk ?_ ?_ | apply HJoin.mk3 | exact HEnd.mk rfl rfl rfl | refine HEnd.mk ?_ ?_ ?_ | refine Round.mk ?_ | refine NilQ.mk (fun b hb => ?_) | refine forceK_of ?_ | refine forceBx_of ?_ | refine unG_old ?_ | refine unG_gv ?_ | refine Lit.read rfl ?_ | refine FinVal.keep ?_ | refine FinAgg.keep ?_ | refine Final.mk rfl rfl | refine Final.mk ?_ rfl | refine Final.mk ?_ ?_ | refine FinalT.mk ?_ ?_ | refine FinalC.allA ?_ | refine ACall.mkR _ _ _ (pcomparisons.ret) ?_)
    | refine AV.bool_congr ?_ | refine AV.int_congr ?_ | refine AV.str_congr ?_ | refine AV.list_congr ?_ | with_reducible rfl | refine fr1 ?_ | refine fr2 ?_ ?_
  refine ALoop.mk Nat (fun i => ⟨[(0, .val (.int .i64 k)), (2, .bptr 0 0), (6, .list (some 0) cmpRows), (7, .val (.int .i64 3)), (8, .val (.int .i64 i))], [.cells .var [.val (.int .i64 0), .str [], .val .nilFunc]], [(75, 3, 3)]⟩) (fun i => i ≤ 3 ∧ (0 < i → k ≠ 3) ∧ (1 < i → k ≠ 4) ∧ (2 < i → k ≠ 5)) (fun i => 3 - i) ⟨0, ⟨by omega, by omega, by omega, by omega⟩, ?_⟩ (fun i hi => ?_)
  · repeat' first
      | exact trivial | refine Weak.mk ?_ ?_ ?_ ?_ (Or.inl (Nat.le_of_ble_eq_true rfl)) | refine Weak.mk ?_ ?_ ?_ ?_ (Or.inr ⟨(by repeat' first | exact trivial | exact Nat.le_of_ble_eq_true rfl | refine And.intro ?_ ?_), (by repeat' first | exact trivial | exact Nat.le_of_ble_eq_true rfl | refine And.intro ?_ ?_)⟩) | refine Weak.mk ?_ ?_ ?_ ?_ ?_ | refine And.intro ?_ ?_ | with_reducible rfl | exact Nat.le_of_ble_eq_true rfl | refine fr1 ?_ | refine fr2 ?_ ?_ | refine AV.int_congr ?_ | refine AV.bool_congr ?_ | refine AV.str_congr ?_ | refine AV.list_congr ?_ | refine AV.bsl_congr ?_ ?_ | (apply rfl)
  obtain ⟨hi, h3, h4, h5⟩ := hi
  have hc : i = 0 ∨ i = 1 ∨ i = 2 ∨ i = 3 := by omega
  rcases hc with rfl | rfl | rfl | rfl
  · have hix : (0 : Int) ≤ (0 : Nat) ∧ cmpRows[((0 : Nat) : Int).toNat]? = some [.val (.int .i64 3), .str [61], .clo 80 [] []] ∧ 3 = 3 := ⟨by omega, rfl, rfl⟩
    repeat' first
      | contradiction | exact trivial
      | (conv => whnf
         first | refine Need.mk (fun h => h) ?_ | refine Need.mk rfl ?_ | refine Need.mk ⟨rfl, Nat.le_of_ble_eq_true rfl⟩ ?_ | refine Need.mk (Nat.le_of_ble_eq_true rfl) ?_ | refine Need.fin ?_ | refine Need.mk ?_ ?_ | refine Ix.mk _ (fun _ => hix) ?_ | refine Ix.strsF rfl ?_ | refine Ix.strs rfl ?_ ?_ | refine Cut.strs rfl ?_ ?_ | refine Ix.mapF (fun _ => rfl) ?_ | refine Ix.map (fun _ => rfl) ?_ ?_ | refine Cut.map (fun _ => rfl) ?_ ?_ | refine Fork.yes (by assumption) ?_ | refine Fork.no (by assumption) ?_ | refine Fork.decYes (by omega) ?_ | refine Fork.decNo (by omega) ?_ | refine Fork.dec (fun _ => ?_) (fun _ => ?_) | refine Fork.bne (fun _ => ?_) (fun _ => ?_) | refine Fork.beq (fun _ => ?_) (fun _ => ?_) | refine Fork.seq (fun _ => ?_) (fun _ => ?_) | refine Fork.sne (fun _ => ?_) (fun _ => ?_) | refine Fork.neg (fun _ => ?_) (fun _ => ?_) | refine Fork.mk (fun _ => ?_) (fun _ => ?_) | refine HAlt.mk ?_ ?_ | apply HJoin.mk3 | exact HEnd.mk rfl rfl rfl | refine HEnd.mk ?_ ?_ ?_ | refine Round.mk ?_ | refine NilQ.mk (fun b hb => ?_) | refine forceK_of ?_ | refine forceBx_of ?_ | refine unG_old ?_ | refine unG_gv ?_ | refine Lit.read rfl ?_ | refine FinVal.keep ?_ | refine FinAgg.keep ?_ | refine Final.mk rfl rfl | refine Final.mk ?_ rfl | refine Final.mk ?_ ?_ | refine FinalT.mk ?_ ?_ | refine FinalC.allA ?_)
      | refine AV.bool_congr ?_ | refine AV.int_congr ?_ | refine AV.str_congr ?_ | refine AV.list_congr ?_ | with_reducible rfl | refine fr1 ?_ | refine fr2 ?_ ?_
    · rename_i h; subst h; rfl
    · rename_i h
      refine ⟨1, ⟨by omega, fun _ => by omega, fun _ => by omega, fun _ => by omega⟩, ?_, by omega⟩
      repeat' first
        | exact trivial | refine Weak.mk ?_ ?_ ?_ ?_ (Or.inl (Nat.le_of_ble_eq_true rfl)) | refine Weak.mk ?_ ?_ ?_ ?_ (Or.inr ⟨(by repeat' first | exact trivial | exact Nat.le_of_ble_eq_true rfl | refine And.intro ?_ ?_), (by repeat' first | exact trivial | exact Nat.le_of_ble_eq_true rfl | refine And.intro ?_ ?_)⟩) | refine Weak.mk ?_ ?_ ?_ ?_ ?_ | refine And.intro ?_ ?_ | with_reducible rfl | exact Nat.le_of_ble_eq_true rfl | refine fr1 ?_ | refine fr2 ?_ ?_ | refine AV.int_congr ?_ | refine AV.bool_congr ?_ | refine AV.str_congr ?_ | refine AV.list_congr ?_ | refine AV.bsl_congr ?_ ?_ | (apply rfl)
  · have hix : (0 : Int) ≤ (1 : Nat) ∧ cmpRows[((1 : Nat) : Int).toNat]? = some [.val (.int .i64 4), .str [33, 61], .clo 81 [] []] ∧ 3 = 3 := ⟨by omega, rfl, rfl⟩
    repeat' first
      | contradiction | exact trivial
      | (conv => whnf
         first | refine Need.mk (fun h => h) ?_ | refine Need.mk rfl ?_ | refine Need.mk ⟨rfl, Nat.le_of_ble_eq_true rfl⟩ ?_ | refine Need.mk (Nat.le_of_ble_eq_true rfl) ?_ | refine Need.fin ?_ | refine Need.mk ?_ ?_ | refine Ix.mk _ (fun _ => hix) ?_ | refine Ix.strsF rfl ?_ | refine Ix.strs rfl ?_ ?_ | refine Cut.strs rfl ?_ ?_ | refine Ix.mapF (fun _ => rfl) ?_ | refine Ix.map (fun _ => rfl) ?_ ?_ | refine Cut.map (fun _ => rfl) ?_ ?_ | refine Fork.yes (by assumption) ?_ | refine Fork.no (by assumption) ?_ | refine Fork.decYes (by omega) ?_ | refine Fork.decNo (by omega) ?_ | refine Fork.dec (fun _ => ?_) (fun _ => ?_) | refine Fork.bne (fun _ => ?_) (fun _ => ?_) | refine Fork.beq (fun _ => ?_) (fun _ => ?_) | refine Fork.seq (fun _ => ?_) (fun _ => ?_) | refine Fork.sne (fun _ => ?_) (fun _ => ?_) | refine Fork.neg (fun _ => ?_) (fun _ => ?_) | refine Fork.mk (fun _ => ?_) (fun _ => ?_) | refine HAlt.mk ?_ ?_ | apply HJoin.mk3 | exact HEnd.mk rfl rfl rfl | refine HEnd.mk ?_ ?_ ?_ | refine Round.mk ?_ | refine NilQ.mk (fun b hb => ?_) | refine forceK_of ?_ | refine forceBx_of ?_ | refine unG_old ?_ | refine unG_gv ?_ | refine Lit.read rfl ?_ | refine FinVal.keep ?_ | refine FinAgg.keep ?_ | refine Final.mk rfl rfl | refine Final.mk ?_ rfl | refine Final.mk ?_ ?_ | refine FinalT.mk ?_ ?_ | refine FinalC.allA ?_)
      | refine AV.bool_congr ?_ | refine AV.int_congr ?_ | refine AV.str_congr ?_ | refine AV.list_congr ?_ | with_reducible rfl | refine fr1 ?_ | refine fr2 ?_ ?_
    · rename_i h; subst h; rfl
    · rename_i h
      refine ⟨2, ⟨by omega, fun _ => by omega, fun _ => by omega, fun _ => by omega⟩, ?_, by omega⟩
      repeat' first
        | exact trivial | refine Weak.mk ?_ ?_ ?_ ?_ (Or.inl (Nat.le_of_ble_eq_true rfl)) | refine Weak.mk ?_ ?_ ?_ ?_ (Or.inr ⟨(by repeat' first | exact trivial | exact Nat.le_of_ble_eq_true rfl | refine And.intro ?_ ?_), (by repeat' first | exact trivial | exact Nat.le_of_ble_eq_true rfl | refine And.intro ?_ ?_)⟩) | refine Weak.mk ?_ ?_ ?_ ?_ ?_ | refine And.intro ?_ ?_ | with_reducible rfl | exact Nat.le_of_ble_eq_true rfl | refine fr1 ?_ | refine fr2 ?_ ?_ | refine AV.int_congr ?_ | refine AV.bool_congr ?_ | refine AV.str_congr ?_ | refine AV.list_congr ?_ | refine AV.bsl_congr ?_ ?_ | (apply rfl)
  · have hix : (0 : Int) ≤ (2 : Nat) ∧ cmpRows[((2 : Nat) : Int).toNat]? = some [.val (.int .i64 5), .str [60], .clo 82 [] []] ∧ 3 = 3 := ⟨by omega, rfl, rfl⟩
    repeat' first
      | contradiction | exact trivial
      | (conv => whnf
         first | refine Need.mk (fun h => h) ?_ | refine Need.mk rfl ?_ | refine Need.mk ⟨rfl, Nat.le_of_ble_eq_true rfl⟩ ?_ | refine Need.mk (Nat.le_of_ble_eq_true rfl) ?_ | refine Need.fin ?_ | refine Need.mk ?_ ?_ | refine Ix.mk _ (fun _ => hix) ?_ | refine Ix.strsF rfl ?_ | refine Ix.strs rfl ?_ ?_ | refine Cut.strs rfl ?_ ?_ | refine Ix.mapF (fun _ => rfl) ?_ | refine Ix.map (fun _ => rfl) ?_ ?_ | refine Cut.map (fun _ => rfl) ?_ ?_ | refine Fork.yes (by assumption) ?_ | refine Fork.no (by assumption) ?_ | refine Fork.decYes (by omega) ?_ | refine Fork.decNo (by omega) ?_ | refine Fork.dec (fun _ => ?_) (fun _ => ?_) | refine Fork.bne (fun _ => ?_) (fun _ => ?_) | refine Fork.beq (fun _ => ?_) (fun _ => ?_) | refine Fork.seq (fun _ => ?_) (fun _ => ?_) | refine Fork.sne (fun _ => ?_) (fun _ => ?_) | refine Fork.neg (fun _ => ?_) (fun _ => ?_) | refine Fork.mk (fun _ => ?_) (fun _ => ?_) | refine HAlt.mk ?_ ?_ | apply HJoin.mk3 | exact HEnd.mk rfl rfl rfl | refine HEnd.mk ?_ ?_ ?_ | refine Round.mk ?_ | refine NilQ.mk (fun b hb => ?_) | refine forceK_of ?_ | refine forceBx_of ?_ | refine unG_old ?_ | refine unG_gv ?_ | refine Lit.read rfl ?_ | refine FinVal.keep ?_ | refine FinAgg.keep ?_ | refine Final.mk rfl rfl | refine Final.mk ?_ rfl | refine Final.mk ?_ ?_ | refine FinalT.mk ?_ ?_ | refine FinalC.allA ?_)
      | refine AV.bool_congr ?_ | refine AV.int_congr ?_ | refine AV.str_congr ?_ | refine AV.list_congr ?_ | with_reducible rfl | refine fr1 ?_ | refine fr2 ?_ ?_
    · rename_i h; subst h; rfl
    · rename_i h
      refine ⟨3, ⟨by omega, fun _ => by omega, fun _ => by omega, fun _ => by omega⟩, ?_, by omega⟩
      repeat' first
        | exact trivial | refine Weak.mk ?_ ?_ ?_ ?_ (Or.inl (Nat.le_of_ble_eq_true rfl)) | refine Weak.mk ?_ ?_ ?_ ?_ (Or.inr ⟨(by repeat' first | exact trivial | exact Nat.le_of_ble_eq_true rfl | refine And.intro ?_ ?_), (by repeat' first | exact trivial | exact Nat.le_of_ble_eq_true rfl | refine And.intro ?_ ?_)⟩) | refine Weak.mk ?_ ?_ ?_ ?_ ?_ | refine And.intro ?_ ?_ | with_reducible rfl | exact Nat.le_of_ble_eq_true rfl | refine fr1 ?_ | refine fr2 ?_ ?_ | refine AV.int_congr ?_ | refine AV.bool_congr ?_ | refine AV.str_congr ?_ | refine AV.list_congr ?_ | refine AV.bsl_congr ?_ ?_ | (apply rfl)
  · have h3 := h3 (by omega)
    have h4 := h4 (by omega)
    have h5 := h5 (by omega)
    have e1 : cmpRow k = [.val (.int .i64 0), .str [], .val .nilFunc] := by rw [cmpRow, if_neg h3, if_neg h4, if_neg h5]
    have e2 : testKind k = false := by simp [testKind, h3, h4, h5]
    rw [e1, e2]
    repeat' first
      | contradiction | exact trivial
      | (conv => whnf
         first | refine Need.mk (fun h => h) ?_ | refine Need.mk rfl ?_ | refine Need.mk ⟨rfl, Nat.le_of_ble_eq_true rfl⟩ ?_ | refine Need.mk (Nat.le_of_ble_eq_true rfl) ?_ | refine Need.fin ?_ | refine Need.mk ?_ ?_ | refine Ix.strsF rfl ?_ | refine Ix.strs rfl ?_ ?_ | refine Cut.strs rfl ?_ ?_ | refine Ix.mapF (fun _ => rfl) ?_ | refine Ix.map (fun _ => rfl) ?_ ?_ | refine Cut.map (fun _ => rfl) ?_ ?_ | refine Fork.yes (by assumption) ?_ | refine Fork.no (by assumption) ?_ | refine Fork.decYes (by omega) ?_ | refine Fork.decNo (by omega) ?_ | refine Fork.dec (fun _ => ?_) (fun _ => ?_) | refine Fork.bne (fun _ => ?_) (fun _ => ?_) | refine Fork.beq (fun _ => ?_) (fun _ => ?_) | refine Fork.seq (fun _ => ?_) (fun _ => ?_) | refine Fork.sne (fun _ => ?_) (fun _ => ?_) | refine Fork.neg (fun _ => ?_) (fun _ => ?_) | refine Fork.mk (fun _ => ?_) (fun _ => ?_) | refine HAlt.mk ?_ ?_ | apply HJoin.mk3 | exact HEnd.mk rfl rfl rfl | refine HEnd.mk ?_ ?_ ?_ | refine Round.mk ?_ | refine NilQ.mk (fun b hb => ?_) | refine forceK_of ?_ | refine forceBx_of ?_ | refine unG_old ?_ | refine unG_gv ?_ | refine Lit.read rfl ?_ | refine FinVal.keep ?_ | refine FinAgg.keep ?_ | refine Final.mk rfl rfl | refine Final.mk ?_ rfl | refine Final.mk ?_ ?_ | refine FinalT.mk ?_ ?_ | refine FinalC.allA ?_)
      | refine AV.bool_congr ?_ | refine AV.int_congr ?_ | refine AV.str_congr ?_ | refine AV.list_congr ?_ | with_reducible rfl | refine fr1 ?_ | refine fr2 ?_ ?_
theorem cmp3 : pcomparisonOf.Ret [.val (.int .i64 3)] (.tup [.agg [.val (.int .i64 3), .str [61], .clo 80 [] []], .val (.bool true)]) [(75, 3, 3)] := pcomparisonOf.ret 3
theorem cmp4 : pcomparisonOf.Ret [.val (.int .i64 4)] (.tup [.agg [.val (.int .i64 4), .str [33, 61], .clo 81 [] []], .val (.bool true)]) [(75, 3, 3)] := pcomparisonOf.ret 4
theorem cmp5 : pcomparisonOf.Ret [.val (.int .i64 5)] (.tup [.agg [.val (.int .i64 5), .str [60], .clo 82 [] []], .val (.bool true)]) [(75, 3, 3)] := pcomparisonOf.ret 5
theorem cmpNo {k : Int} (h : testKind k = false) : pcomparisonOf.Ret [.val (.int .i64 k)] (.tup [.agg [.val (.int .i64 0), .str [], .val .nilFunc], .val (.bool false)]) [(75, 3, 3)] := by
  have h' := pcomparisonOf.ret k
  have h3 : k ≠ 3 := by rintro rfl; cases h
  have h4 : k ≠ 4 := by rintro rfl; cases h
  have h5 : k ≠ 5 := by rintro rfl; cases h
  have e1 : cmpRow k = [.val (.int .i64 0), .str [], .val .nilFunc] := by rw [cmpRow, if_neg h3, if_neg h4, if_neg h5]
  rwa [h, e1] at h'
theorem sIsCond.ret (x : VCond) (h : tCond.size x ≤ 1048576) : sIsCond.Ret [.agg (oldL (tCond.q x))] (.val (.bool (isCondF x))) [] := by
  refine sIsCond.of rfl ?_
  have hp := tCond_pat x
  have hz := tCond_sz x
  repeat' first
    | contradiction | exact trivial
    | (conv => whnf
       first | refine Need.mk (fun h => h) ?_ | refine Need.mk rfl ?_ | refine Need.mk ⟨rfl, Nat.le_of_ble_eq_true rfl⟩ ?_ | refine Need.mk (Nat.le_of_ble_eq_true rfl) ?_ | refine Need.fin ?_ | refine Need.mk ?_ ?_ | refine Ix.strsF rfl ?_ | refine Ix.strs rfl ?_ ?_ | refine Cut.strs rfl ?_ ?_ | refine Ix.mapF (fun _ => rfl) ?_ | refine Ix.map (fun _ => rfl) ?_ ?_ | refine Cut.map (fun _ => rfl) ?_ ?_ | refine Fork.yes (by assumption) ?_ | refine Fork.no (by assumption) ?_ | refine Fork.decYes (by omega) ?_ | refine Fork.decNo (by omega) ?_ | refine Fork.dec (fun _ => ?_) (fun _ => ?_) | refine Fork.bne (fun _ => ?_) (fun _ => ?_) | refine Fork.beq (fun _ => ?_) (fun _ => ?_) | refine Fork.seq (fun _ => ?_) (fun _ => ?_) | refine Fork.sne (fun _ => ?_) (fun _ => ?_) | refine Fork.neg (fun _ => ?_) (fun _ => ?_) | refine Fork.mk (fun _ => ?_) (fun _ => ?_) | refine HAlt.mk ?_ ?_ | apply HJoin.mk3 | exact HEnd.mk rfl rfl rfl | refine HEnd.mk ?_ ?_ ?_ | refine Round.mk ?_ | refine NilQ.mk (fun b hb => ?_) | refine forceK_of ?_ | refine forceBx_of ?_ | refine unG_old ?_ | refine unG_gv ?_ | refine Lit.read rfl ?_ | refine FinVal.keep ?_ | refine FinAgg.keep ?_ | refine Final.mk rfl rfl | refine Final.mk ?_ rfl | refine Final.mk ?_ ?_ | refine FinalT.mk ?_ ?_ | refine FinalC.allA ?_ | refine ACall.scalA _ _ (sIsPattern.ret _ ?_) rfl ?_ | refine AQCall.mkA _ _ (fun hg => sIsPattern.ret _ ?_) rfl ?_ | refine ACall.scalA _ _ (sIsTerm.ret _ ?_) rfl ?_ | refine AQCall.mkA _ _ (fun hg => sIsTerm.ret _ ?_) rfl ?_)
    | refine AV.bool_congr ?_ | refine AV.int_congr ?_ | refine AV.str_congr ?_ | refine AV.list_congr ?_ | with_reducible rfl | refine fr1 ?_ | refine fr2 ?_ ?_
  all_goals first
    | omega
    | (refine (cond_has ?_) ; simp [hasKind, *]; done)
    | (rw [length_oldLL, List.length_map]; refine (cond_test ?_ ?_) <;> (simp [hasKind, testKind, *]; done))
    | (refine (cond_no ?_ ?_) <;> (simp [hasKind, testKind, *]; done))
theorem sIsTest.ret (x : VCond) (h : tCond.size x ≤ 1048576) : sIsTest.Ret [.agg (oldL (tCond.q x))] (.val (.bool (isTestF x))) [] := by
  refine sIsTest.of rfl ?_
  repeat' first
    | contradiction | exact trivial
    | (conv => whnf
       first | refine Need.mk (fun h => h) ?_ | refine Need.mk rfl ?_ | refine Need.mk ⟨rfl, Nat.le_of_ble_eq_true rfl⟩ ?_ | refine Need.mk (Nat.le_of_ble_eq_true rfl) ?_ | refine Need.fin ?_ | refine Need.mk ?_ ?_ | refine Ix.strsF rfl ?_ | refine Ix.strs rfl ?_ ?_ | refine Cut.strs rfl ?_ ?_ | refine Ix.mapF (fun _ => rfl) ?_ | refine Ix.map (fun _ => rfl) ?_ ?_ | refine Cut.map (fun _ => rfl) ?_ ?_ | refine Fork.yes (by assumption) ?_ | refine Fork.no (by assumption) ?_ | refine Fork.decYes (by omega) ?_ | refine Fork.decNo (by omega) ?_ | refine Fork.dec (fun _ => ?_) (fun _ => ?_) | refine Fork.bne (fun _ => ?_) (fun _ => ?_) | refine Fork.beq (fun _ => ?_) (fun _ => ?_) | refine Fork.seq (fun _ => ?_) (fun _ => ?_) | refine Fork.sne (fun _ => ?_) (fun _ => ?_) | refine Fork.neg (fun _ => ?_) (fun _ => ?_) | refine Fork.mk (fun _ => ?_) (fun _ => ?_) | refine HAlt.mk ?_ ?_ | apply HJoin.mk3 | exact HEnd.mk rfl rfl rfl | refine HEnd.mk ?_ ?_ ?_ | refine Round.mk ?_ | refine NilQ.mk (fun b hb => ?_) | refine forceK_of ?_ | refine forceBx_of ?_ | refine unG_old ?_ | refine unG_gv ?_ | refine Lit.read rfl ?_ | refine FinVal.keep ?_ | refine FinAgg.keep ?_ | refine Final.mk rfl rfl | refine Final.mk ?_ rfl | refine Final.mk ?_ ?_ | refine FinalT.mk ?_ ?_ | refine FinalC.allA ?_ | refine ACall.scalA _ _ (sIsCond.ret _ ?_) rfl ?_ | refine AQCall.mkA _ _ (fun hg => sIsCond.ret _ ?_) rfl ?_)
    | refine AV.bool_congr ?_ | refine AV.int_congr ?_ | refine AV.str_congr ?_ | refine AV.list_congr ?_ | with_reducible rfl | refine fr1 ?_ | refine fr2 ?_ ?_
  · exact h
  · exact test_ge x
theorem pzero.ret (p : VPattern) (h : tPattern.size p ≤ 1048576) : pSamePattern.Ret [.agg (oldL (tPattern.q p)), .agg [.str [], .list none []]] (.val (.bool (zeroP p))) [] := by
  have h' := pSamePattern.ret p ([], []) h
  rwa [zero_pat] at h'
theorem test_eq {k : Int} {p : VPattern} {l r : Str} (h : testKind k = true) : (termF l && termF r && zeroP p) = isTestF (k, p, l, r) := by
  simp only [isTestF, h]
  cases zeroP p <;> cases termF l <;> cases termF r <;> rfl
theorem test_no {k : Int} {p : VPattern} {l r : Str} (h : testKind k = false) : false = isTestF (k, p, l, r) := by simp [isTestF, h]
theorem pIsTest.ret (x : VCond) (h : tCond.size x ≤ 1048576) : pIsTest.Ret [.agg (oldL (tCond.q x))] (.val (.bool (isTestF x))) [] := by
  refine pIsTest.ofS rfl rfl ?_
  have hp := tCond_pat x
  have hz := tCond_sz x
  obtain ⟨k, p, l, r⟩ := x
  simp only at hp hz
  have hl : l.length ≤ 1048576 := by omega
  have hr : r.length ≤ 1048576 := by omega
  have hzp := pzero.ret p (by omega)
  by_cases h3 : k = 3
  · subst h3
    repeat' first
      | contradiction | exact trivial
      | (conv => whnf
         first | refine Need.mk (fun h => h) ?_ | refine Need.mk rfl ?_ | refine Need.mk ⟨rfl, Nat.le_of_ble_eq_true rfl⟩ ?_ | refine Need.mk (Nat.le_of_ble_eq_true rfl) ?_ | refine Need.fin ?_ | refine Need.mk ?_ ?_ | refine Ix.strsF rfl ?_ | refine Ix.strs rfl ?_ ?_ | refine Cut.strs rfl ?_ ?_ | refine Ix.mapF (fun _ => rfl) ?_ | refine Ix.map (fun _ => rfl) ?_ ?_ | refine Cut.map (fun _ => rfl) ?_ ?_ | refine Fork.yes (by assumption) ?_ | refine Fork.no (by assumption) ?_ | refine Fork.decYes (by omega) ?_ | refine Fork.decNo (by omega) ?_ | refine Fork.dec (fun _ => ?_) (fun _ => ?_) | refine Fork.bne (fun _ => ?_) (fun _ => ?_) | refine Fork.beq (fun _ => ?_) (fun _ => ?_) | refine Fork.seq (fun _ => ?_) (fun _ => ?_) | refine Fork.sne (fun _ => ?_) (fun _ => ?_) | refine Fork.neg (fun _ => ?_) (fun _ => ?_) | refine Fork.mk (fun _ => ?_) (fun _ => ?_) | refine HAlt.mk ?_ ?_ | apply HJoin.mk3 | exact HEnd.mk rfl rfl rfl | refine HEnd.mk ?_ ?_ ?_ | refine Round.mk ?_ | refine NilQ.mk (fun b hb => ?_) | refine forceK_of ?_ | refine forceBx_of ?_ | refine unG_old ?_ | refine unG_gv ?_ | refine Lit.read rfl ?_ | refine FinVal.keep ?_ | refine FinAgg.keep ?_ | refine Final.mk rfl rfl | refine Final.mk ?_ rfl | refine Final.mk ?_ ?_ | refine FinalT.mk ?_ ?_ | refine FinalC.allA ?_ | refine ACall.mkR _ _ _ (cmp3) ?_ | refine ACall.scalA _ _ (pIsTerm.ret _ ?_) rfl ?_ | refine AQCall.mkA _ _ (fun hg => pIsTerm.ret _ ?_) rfl ?_ | refine ACall.scalA _ _ (hzp) rfl ?_ | refine AQCall.mkA _ _ (fun hg => hzp) rfl ?_)
      | refine AV.bool_congr ?_ | refine AV.int_congr ?_ | refine AV.str_congr ?_ | refine AV.list_congr ?_ | with_reducible rfl | refine fr1 ?_ | refine fr2 ?_ ?_
    all_goals first
      | assumption
      | exact test_eq rfl
  by_cases h4 : k = 4
  · subst h4
    repeat' first
      | contradiction | exact trivial
      | (conv => whnf
         first | refine Need.mk (fun h => h) ?_ | refine Need.mk rfl ?_ | refine Need.mk ⟨rfl, Nat.le_of_ble_eq_true rfl⟩ ?_ | refine Need.mk (Nat.le_of_ble_eq_true rfl) ?_ | refine Need.fin ?_ | refine Need.mk ?_ ?_ | refine Ix.strsF rfl ?_ | refine Ix.strs rfl ?_ ?_ | refine Cut.strs rfl ?_ ?_ | refine Ix.mapF (fun _ => rfl) ?_ | refine Ix.map (fun _ => rfl) ?_ ?_ | refine Cut.map (fun _ => rfl) ?_ ?_ | refine Fork.yes (by assumption) ?_ | refine Fork.no (by assumption) ?_ | refine Fork.decYes (by omega) ?_ | refine Fork.decNo (by omega) ?_ | refine Fork.dec (fun _ => ?_) (fun _ => ?_) | refine Fork.bne (fun _ => ?_) (fun _ => ?_) | refine Fork.beq (fun _ => ?_) (fun _ => ?_) | refine Fork.seq (fun _ => ?_) (fun _ => ?_) | refine Fork.sne (fun _ => ?_) (fun _ => ?_) | refine Fork.neg (fun _ => ?_) (fun _ => ?_) | refine Fork.mk (fun _ => ?_) (fun _ => ?_) | refine HAlt.mk ?_ ?_ | apply HJoin.mk3 | exact HEnd.mk rfl rfl rfl | refine HEnd.mk ?_ ?_ ?_ | refine Round.mk ?_ | refine NilQ.mk (fun b hb => ?_) | refine forceK_of ?_ | refine forceBx_of ?_ | refine unG_old ?_ | refine unG_gv ?_ | refine Lit.read rfl ?_ | refine FinVal.keep ?_ | refine FinAgg.keep ?_ | refine Final.mk rfl rfl | refine Final.mk ?_ rfl | refine Final.mk ?_ ?_ | refine FinalT.mk ?_ ?_ | refine FinalC.allA ?_ | refine ACall.mkR _ _ _ (cmp4) ?_ | refine ACall.scalA _ _ (pIsTerm.ret _ ?_) rfl ?_ | refine AQCall.mkA _ _ (fun hg => pIsTerm.ret _ ?_) rfl ?_ | refine ACall.scalA _ _ (hzp) rfl ?_ | refine AQCall.mkA _ _ (fun hg => hzp) rfl ?_)
      | refine AV.bool_congr ?_ | refine AV.int_congr ?_ | refine AV.str_congr ?_ | refine AV.list_congr ?_ | with_reducible rfl | refine fr1 ?_ | refine fr2 ?_ ?_
    all_goals first
      | assumption
      | exact test_eq rfl
  by_cases h5 : k = 5
  · subst h5
    repeat' first
      | contradiction | exact trivial
      | (conv => whnf
         first | refine Need.mk (fun h => h) ?_ | refine Need.mk rfl ?_ | refine Need.mk ⟨rfl, Nat.le_of_ble_eq_true rfl⟩ ?_ | refine Need.mk (Nat.le_of_ble_eq_true rfl) ?_ | refine Need.fin ?_ | refine Need.mk ?_ ?_ | refine Ix.strsF rfl ?_ | refine Ix.strs rfl ?_ ?_ | refine Cut.strs rfl ?_ ?_ | refine Ix.mapF (fun _ => rfl) ?_ | refine Ix.map (fun _ => rfl) ?_ ?_ | refine Cut.map (fun _ => rfl) ?_ ?_ | refine Fork.yes (by assumption) ?_ | refine Fork.no (by assumption) ?_ | refine Fork.decYes (by omega) ?_ | refine Fork.decNo (by omega) ?_ | refine Fork.dec (fun _ => ?_) (fun _ => ?_) | refine Fork.bne (fun _ => ?_) (fun _ => ?_) | refine Fork.beq (fun _ => ?_) (fun _ => ?_) | refine Fork.seq (fun _ => ?_) (fun _ => ?_) | refine Fork.sne (fun _ => ?_) (fun _ => ?_) | refine Fork.neg (fun _ => ?_) (fun _ => ?_) | refine Fork.mk (fun _ => ?_) (fun _ => ?_) | refine HAlt.mk ?_ ?_ | apply HJoin.mk3 | exact HEnd.mk rfl rfl rfl | refine HEnd.mk ?_ ?_ ?_ | refine Round.mk ?_ | refine NilQ.mk (fun b hb => ?_) | refine forceK_of ?_ | refine forceBx_of ?_ | refine unG_old ?_ | refine unG_gv ?_ | refine Lit.read rfl ?_ | refine FinVal.keep ?_ | refine FinAgg.keep ?_ | refine Final.mk rfl rfl | refine Final.mk ?_ rfl | refine Final.mk ?_ ?_ | refine FinalT.mk ?_ ?_ | refine FinalC.allA ?_ | refine ACall.mkR _ _ _ (cmp5) ?_ | refine ACall.scalA _ _ (pIsTerm.ret _ ?_) rfl ?_ | refine AQCall.mkA _ _ (fun hg => pIsTerm.ret _ ?_) rfl ?_ | refine ACall.scalA _ _ (hzp) rfl ?_ | refine AQCall.mkA _ _ (fun hg => hzp) rfl ?_)
      | refine AV.bool_congr ?_ | refine AV.int_congr ?_ | refine AV.str_congr ?_ | refine AV.list_congr ?_ | with_reducible rfl | refine fr1 ?_ | refine fr2 ?_ ?_
    all_goals first
      | assumption
      | exact test_eq rfl
  have hk : testKind k = false := by simp [testKind, *]
  have hcn := cmpNo hk
  repeat' first
    | contradiction | exact trivial
    | (conv => whnf
       first | refine Need.mk (fun h => h) ?_ | refine Need.mk rfl ?_ | refine Need.mk ⟨rfl, Nat.le_of_ble_eq_true rfl⟩ ?_ | refine Need.mk (Nat.le_of_ble_eq_true rfl) ?_ | refine Need.fin ?_ | refine Need.mk ?_ ?_ | refine Ix.strsF rfl ?_ | refine Ix.strs rfl ?_ ?_ | refine Cut.strs rfl ?_ ?_ | refine Ix.mapF (fun _ => rfl) ?_ | refine Ix.map (fun _ => rfl) ?_ ?_ | refine Cut.map (fun _ => rfl) ?_ ?_ | refine Fork.yes (by assumption) ?_ | refine Fork.no (by assumption) ?_ | refine Fork.decYes (by omega) ?_ | refine Fork.decNo (by omega) ?_ | refine Fork.dec (fun _ => ?_) (fun _ => ?_) | refine Fork.bne (fun _ => ?_) (fun _ => ?_) | refine Fork.beq (fun _ => ?_) (fun _ => ?_) | refine Fork.seq (fun _ => ?_) (fun _ => ?_) | refine Fork.sne (fun _ => ?_) (fun _ => ?_) | refine Fork.neg (fun _ => ?_) (fun _ => ?_) | refine Fork.mk (fun _ => ?_) (fun _ => ?_) | refine HAlt.mk ?_ ?_ | apply HJoin.mk3 | exact HEnd.mk rfl rfl rfl | refine HEnd.mk ?_ ?_ ?_ | refine Round.mk ?_ | refine NilQ.mk (fun b hb => ?_) | refine forceK_of ?_ | refine forceBx_of ?_ | refine unG_old ?_ | refine unG_gv ?_ | refine Lit.read rfl ?_ | refine FinVal.keep ?_ | refine FinAgg.keep ?_ | refine Final.mk rfl rfl | refine Final.mk ?_ rfl | refine Final.mk ?_ ?_ | refine FinalT.mk ?_ ?_ | refine FinalC.allA ?_ | refine ACall.mkR _ _ _ (hcn) ?_ | refine ACall.scalA _ _ (pIsTerm.ret _ ?_) rfl ?_ | refine AQCall.mkA _ _ (fun hg => pIsTerm.ret _ ?_) rfl ?_ | refine ACall.scalA _ _ (hzp) rfl ?_ | refine AQCall.mkA _ _ (fun hg => hzp) rfl ?_)
    | refine AV.bool_congr ?_ | refine AV.int_congr ?_ | refine AV.str_congr ?_ | refine AV.list_congr ?_ | with_reducible rfl | refine fr1 ?_ | refine fr2 ?_ ?_
  all_goals first
    | assumption
    | exact test_no hk
theorem pIsCond.ret (x : VCond) (h : tCond.size x ≤ 1048576) : pIsCond.Ret [.agg (oldL (tCond.q x))] (.val (.bool (isCondF x))) [] := by
  refine pIsCond.ofS rfl rfl ?_
  have hp := tCond_pat x
  have hz := tCond_sz x
  repeat' first
    | contradiction | exact trivial
    | (conv => whnf
       first | refine Need.mk (fun h => h) ?_ | refine Need.mk rfl ?_ | refine Need.mk ⟨rfl, Nat.le_of_ble_eq_true rfl⟩ ?_ | refine Need.mk (Nat.le_of_ble_eq_true rfl) ?_ | refine Need.fin ?_ | refine Need.mk ?_ ?_ | refine Ix.strsF rfl ?_ | refine Ix.strs rfl ?_ ?_ | refine Cut.strs rfl ?_ ?_ | refine Ix.mapF (fun _ => rfl) ?_ | refine Ix.map (fun _ => rfl) ?_ ?_ | refine Cut.map (fun _ => rfl) ?_ ?_ | refine Fork.yes (by assumption) ?_ | refine Fork.no (by assumption) ?_ | refine Fork.decYes (by omega) ?_ | refine Fork.decNo (by omega) ?_ | refine Fork.dec (fun _ => ?_) (fun _ => ?_) | refine Fork.bne (fun _ => ?_) (fun _ => ?_) | refine Fork.beq (fun _ => ?_) (fun _ => ?_) | refine Fork.seq (fun _ => ?_) (fun _ => ?_) | refine Fork.sne (fun _ => ?_) (fun _ => ?_) | refine Fork.neg (fun _ => ?_) (fun _ => ?_) | refine Fork.mk (fun _ => ?_) (fun _ => ?_) | refine HAlt.mk ?_ ?_ | apply HJoin.mk3 | exact HEnd.mk rfl rfl rfl | refine HEnd.mk ?_ ?_ ?_ | refine Round.mk ?_ | refine NilQ.mk (fun b hb => ?_) | refine forceK_of ?_ | refine forceBx_of ?_ | refine unG_old ?_ | refine unG_gv ?_ | refine Lit.read rfl ?_ | refine FinVal.keep ?_ | refine FinAgg.keep ?_ | refine Final.mk rfl rfl | refine Final.mk ?_ rfl | refine Final.mk ?_ ?_ | refine FinalT.mk ?_ ?_ | refine FinalC.allA ?_ | refine ACall.scalA _ _ (pIsPattern.ret _ ?_) rfl ?_ | refine AQCall.mkA _ _ (fun hg => pIsPattern.ret _ ?_) rfl ?_ | refine ACall.scalA _ _ (pIsTest.ret _ ?_) rfl ?_ | refine AQCall.mkA _ _ (fun hg => pIsTest.ret _ ?_) rfl ?_)
    | refine AV.bool_congr ?_ | refine AV.int_congr ?_ | refine AV.str_congr ?_ | refine AV.list_congr ?_ | with_reducible rfl | refine fr1 ?_ | refine fr2 ?_ ?_
  all_goals first
    | omega
    | (refine (cond_has ?_) ; simp [hasKind, *]; done)
    | (rw [isCondF, if_neg]; simp [hasKind, *]; done)
end Go.Proofs.YtfffboofmccfhaaGreat
namespace Go.Proofs.YtfffboofmccfhaaGreat
open Abs
def lessF (a b : Str) : Bool := (parseF a).2 && (parseF b).2 && decide ((parseF a).1 < (parseF b).1)
theorem less_cmp (a b : Str) : ((parseF a).2 && (parseF b).2 && decide (cmpA a b < 0)) = lessF a b := by
  unfold lessF cmpA
  cases ha : (parseF a).2 <;> cases hb : (parseF b).2 <;> simp
  unfold icmp
  split
  · rename_i h; simp [h]
  · split
    · rename_i h; simp [h]
    · rename_i h _; simp; omega
theorem valF_len (b : List VPair) (t : Str) (h : tPairs.size b ≤ 1048576) (ht : t.length ≤ 1048576) : (valF b t).1.length ≤ 1048576 := by
  rw [tPairs_sz] at h
  unfold valF
  split
  · exact ht
  split
  · cases hl : lookV b t with
    | none => simp
    | some v =>
      have : v.length ≤ listSize tPair b := by
        clear h
        induction b with
        | nil => cases hl
        | cons p b ih =>
          rw [lookV] at hl
          have e : listSize tPair (p :: b) = (p.1.length + p.2.length) + listSize tPair b := rfl
          split at hl
          · cases hl; omega
          · have := ih hl; omega
      simp; omega
  · simp
def opF (k : Int) (a b : Str) : Bool := if k = 3 then a == b else if k = 4 then !(a == b) else lessF a b
def holdsTF (x : VCond) (b : List VPair) : Bool := isTestF x && bindF b && (valF b x.2.2.1).2 && (valF b x.2.2.2).2 && opF x.1 (valF b x.2.2.1).1 (valF b x.2.2.2).1
theorem holds_no1 {x : VCond} {b : List VPair} (h : (!isTestF x || !bindF b) = true) : false = holdsTF x b := by
  unfold holdsTF; revert h; cases isTestF x <;> cases bindF b <;> simp
theorem holds_no2 {x : VCond} {b : List VPair} (h : (!(valF b x.2.2.1).2 || !(valF b x.2.2.2).2) = true) : false = holdsTF x b := by
  unfold holdsTF; revert h; cases (valF b x.2.2.1).2 <;> cases (valF b x.2.2.2).2 <;> simp
theorem holds_at {x : VCond} {b : List VPair} (h : (!isTestF x || !bindF b) = false) (h' : (!(valF b x.2.2.1).2 || !(valF b x.2.2.2).2) = false) : opF x.1 (valF b x.2.2.1).1 (valF b x.2.2.2).1 = holdsTF x b := by
  unfold holdsTF; revert h h'; cases isTestF x <;> cases bindF b <;> cases (valF b x.2.2.1).2 <;> cases (valF b x.2.2.2).2 <;> simp
theorem sHoldsTest.ret (x : VCond) (b : List VPair) (h : tCond.size x ≤ 1048576) (hb : tPairs.size b ≤ 1048576) : sHoldsTest.Ret [.agg (oldL (tCond.q x)), .list none (pairs b)] (.val (.bool (holdsTF x b))) [] := by
  refine sHoldsTest.ofS rfl rfl ?_
  have hz := tCond_sz x
  have hl : x.2.2.1.length ≤ 1048576 := by omega
  have hr : x.2.2.2.length ≤ 1048576 := by omega
  have hvl := valF_len b _ hb hl
  have hvr := valF_len b _ hb hr
  repeat' first
    | contradiction | exact trivial
    | (conv => whnf
       first | refine Need.mk (fun h => h) ?_ | refine Need.mk rfl ?_ | refine Need.mk ⟨rfl, Nat.le_of_ble_eq_true rfl⟩ ?_ | refine Need.mk (Nat.le_of_ble_eq_true rfl) ?_ | refine Need.fin ?_ | refine Need.mk ?_ ?_ | refine Ix.strsF rfl ?_ | refine Ix.strs rfl ?_ ?_ | refine Cut.strs rfl ?_ ?_ | refine Ix.mapF (fun _ => rfl) ?_ | refine Ix.map (fun _ => rfl) ?_ ?_ | refine Cut.map (fun _ => rfl) ?_ ?_ | refine Fork.yes (by assumption) ?_ | refine Fork.no (by assumption) ?_ | refine Fork.decYes (by omega) ?_ | refine Fork.decNo (by omega) ?_ | refine Fork.dec (fun _ => ?_) (fun _ => ?_) | refine Fork.bne (fun _ => ?_) (fun _ => ?_) | refine Fork.beq (fun _ => ?_) (fun _ => ?_) | refine Fork.seq (fun _ => ?_) (fun _ => ?_) | refine Fork.sne (fun _ => ?_) (fun _ => ?_) | refine Fork.neg (fun _ => ?_) (fun _ => ?_) | refine Fork.mk (fun _ => ?_) (fun _ => ?_) | refine HAlt.mk ?_ ?_ | apply HJoin.mk3 | exact HEnd.mk rfl rfl rfl | refine HEnd.mk ?_ ?_ ?_ | refine Round.mk ?_ | refine NilQ.mk (fun b hb => ?_) | refine forceK_of ?_ | refine forceBx_of ?_ | refine unG_old ?_ | refine unG_gv ?_ | refine Lit.read rfl ?_ | refine FinVal.keep ?_ | refine FinAgg.keep ?_ | refine Final.mk rfl rfl | refine Final.mk ?_ rfl | refine Final.mk ?_ ?_ | refine FinalT.mk ?_ ?_ | refine FinalC.allA ?_ | refine ACall.scalA _ _ (sIsTest.ret _ ?_) rfl ?_ | refine AQCall.mkA _ _ (fun hg => sIsTest.ret _ ?_) rfl ?_ | refine ACall.scalA _ _ (sIsBinding.ret _ ?_) rfl ?_ | refine AQCall.mkA _ _ (fun hg => sIsBinding.ret _ ?_) rfl ?_ | refine ACall.scalA _ _ (sValueOf.ret _ _ ?_ ?_) rfl ?_ | refine AQCall.mkA _ _ (fun hg => sValueOf.ret _ _ ?_ ?_) rfl ?_ | refine ACall.scalA _ _ (sIsNumber.ret _ ?_) rfl ?_ | refine AQCall.mkA _ _ (fun hg => sIsNumber.ret _ ?_) rfl ?_ | refine ACall.scalA _ _ (sCompareAtoms.ret _ _ ?_ ?_) rfl ?_ | refine AQCall.mkA _ _ (fun hg => sCompareAtoms.ret _ _ ?_ ?_) rfl ?_)
    | refine AV.bool_congr ?_ | refine AV.int_congr ?_ | refine AV.str_congr ?_ | refine AV.list_congr ?_ | with_reducible rfl | refine fr1 ?_ | refine fr2 ?_ ?_
  all_goals first
    | assumption
    | exact holds_no1 (by assumption)
    | exact holds_no2 (by assumption)
    | (rw [← holds_at (by assumption) (by assumption), opF, if_pos (by assumption)])
    | (rw [← holds_at (by assumption) (by assumption), opF, if_neg (by assumption), if_pos (by assumption)])
    | (rw [← holds_at (by assumption) (by assumption), opF, if_neg (by assumption), if_neg (by assumption), less_cmp])
theorem pcmp1.ret (a b : Str) : pcmp1.Ret [.str a, .str b] (.val (.bool (a == b))) [] := by
  refine pcmp1.of rfl ?_
  repeat' first
    | contradiction | exact trivial
    | (conv => whnf
       first | refine Need.mk (fun h => h) ?_ | refine Need.mk rfl ?_ | refine Need.mk ⟨rfl, Nat.le_of_ble_eq_true rfl⟩ ?_ | refine Need.mk (Nat.le_of_ble_eq_true rfl) ?_ | refine Need.fin ?_ | refine Need.mk ?_ ?_ | refine Ix.strsF rfl ?_ | refine Ix.strs rfl ?_ ?_ | refine Cut.strs rfl ?_ ?_ | refine Ix.mapF (fun _ => rfl) ?_ | refine Ix.map (fun _ => rfl) ?_ ?_ | refine Cut.map (fun _ => rfl) ?_ ?_ | refine Fork.yes (by assumption) ?_ | refine Fork.no (by assumption) ?_ | refine Fork.decYes (by omega) ?_ | refine Fork.decNo (by omega) ?_ | refine Fork.dec (fun _ => ?_) (fun _ => ?_) | refine Fork.bne (fun _ => ?_) (fun _ => ?_) | refine Fork.beq (fun _ => ?_) (fun _ => ?_) | refine Fork.seq (fun _ => ?_) (fun _ => ?_) | refine Fork.sne (fun _ => ?_) (fun _ => ?_) | refine Fork.neg (fun _ => ?_) (fun _ => ?_) | refine Fork.mk (fun _ => ?_) (fun _ => ?_) | refine HAlt.mk ?_ ?_ | apply HJoin.mk3 | exact HEnd.mk rfl rfl rfl | refine HEnd.mk ?_ ?_ ?_ | refine Round.mk ?_ | refine NilQ.mk (fun b hb => ?_) | refine forceK_of ?_ | refine forceBx_of ?_ | refine unG_old ?_ | refine unG_gv ?_ | refine Lit.read rfl ?_ | refine FinVal.keep ?_ | refine FinAgg.keep ?_ | refine Final.mk rfl rfl | refine Final.mk ?_ rfl | refine Final.mk ?_ ?_ | refine FinalT.mk ?_ ?_ | refine FinalC.allA ?_)
    | refine AV.bool_congr ?_ | refine AV.int_congr ?_ | refine AV.str_congr ?_ | refine AV.list_congr ?_ | with_reducible rfl | refine fr1 ?_ | refine fr2 ?_ ?_
theorem pcmp2.ret (a b : Str) : pcmp2.Ret [.str a, .str b] (.val (.bool (!(a == b)))) [] := by
  refine pcmp2.of rfl ?_
  repeat' first
    | contradiction | exact trivial
    | (conv => whnf
       first | refine Need.mk (fun h => h) ?_ | refine Need.mk rfl ?_ | refine Need.mk ⟨rfl, Nat.le_of_ble_eq_true rfl⟩ ?_ | refine Need.mk (Nat.le_of_ble_eq_true rfl) ?_ | refine Need.fin ?_ | refine Need.mk ?_ ?_ | refine Ix.strsF rfl ?_ | refine Ix.strs rfl ?_ ?_ | refine Cut.strs rfl ?_ ?_ | refine Ix.mapF (fun _ => rfl) ?_ | refine Ix.map (fun _ => rfl) ?_ ?_ | refine Cut.map (fun _ => rfl) ?_ ?_ | refine Fork.yes (by assumption) ?_ | refine Fork.no (by assumption) ?_ | refine Fork.decYes (by omega) ?_ | refine Fork.decNo (by omega) ?_ | refine Fork.dec (fun _ => ?_) (fun _ => ?_) | refine Fork.bne (fun _ => ?_) (fun _ => ?_) | refine Fork.beq (fun _ => ?_) (fun _ => ?_) | refine Fork.seq (fun _ => ?_) (fun _ => ?_) | refine Fork.sne (fun _ => ?_) (fun _ => ?_) | refine Fork.neg (fun _ => ?_) (fun _ => ?_) | refine Fork.mk (fun _ => ?_) (fun _ => ?_) | refine HAlt.mk ?_ ?_ | apply HJoin.mk3 | exact HEnd.mk rfl rfl rfl | refine HEnd.mk ?_ ?_ ?_ | refine Round.mk ?_ | refine NilQ.mk (fun b hb => ?_) | refine forceK_of ?_ | refine forceBx_of ?_ | refine unG_old ?_ | refine unG_gv ?_ | refine Lit.read rfl ?_ | refine FinVal.keep ?_ | refine FinAgg.keep ?_ | refine Final.mk rfl rfl | refine Final.mk ?_ rfl | refine Final.mk ?_ ?_ | refine FinalT.mk ?_ ?_ | refine FinalC.allA ?_)
    | refine AV.bool_congr ?_ | refine AV.int_congr ?_ | refine AV.str_congr ?_ | refine AV.list_congr ?_ | with_reducible rfl | refine fr1 ?_ | refine fr2 ?_ ?_
theorem pisLessNumber.ret (a b : Str) (ha : a.length ≤ 1048576) (hb : b.length ≤ 1048576) : pisLessNumber.Ret [.str a, .str b] (.val (.bool (lessF a b))) [] := by
  refine pisLessNumber.of rfl ?_
  repeat' first
    | contradiction | exact trivial
    | (conv => whnf
       first | refine Need.mk (fun h => h) ?_ | refine Need.mk rfl ?_ | refine Need.mk ⟨rfl, Nat.le_of_ble_eq_true rfl⟩ ?_ | refine Need.mk (Nat.le_of_ble_eq_true rfl) ?_ | refine Need.fin ?_ | refine Need.mk ?_ ?_ | refine Ix.strsF rfl ?_ | refine Ix.strs rfl ?_ ?_ | refine Cut.strs rfl ?_ ?_ | refine Ix.mapF (fun _ => rfl) ?_ | refine Ix.map (fun _ => rfl) ?_ ?_ | refine Cut.map (fun _ => rfl) ?_ ?_ | refine Fork.yes (by assumption) ?_ | refine Fork.no (by assumption) ?_ | refine Fork.decYes (by omega) ?_ | refine Fork.decNo (by omega) ?_ | refine Fork.dec (fun _ => ?_) (fun _ => ?_) | refine Fork.bne (fun _ => ?_) (fun _ => ?_) | refine Fork.beq (fun _ => ?_) (fun _ => ?_) | refine Fork.seq (fun _ => ?_) (fun _ => ?_) | refine Fork.sne (fun _ => ?_) (fun _ => ?_) | refine Fork.neg (fun _ => ?_) (fun _ => ?_) | refine Fork.mk (fun _ => ?_) (fun _ => ?_) | refine HAlt.mk ?_ ?_ | apply HJoin.mk3 | exact HEnd.mk rfl rfl rfl | refine HEnd.mk ?_ ?_ ?_ | refine Round.mk ?_ | refine NilQ.mk (fun b hb => ?_) | refine forceK_of ?_ | refine forceBx_of ?_ | refine unG_old ?_ | refine unG_gv ?_ | refine Lit.read rfl ?_ | refine FinVal.keep ?_ | refine FinAgg.keep ?_ | refine Final.mk rfl rfl | refine Final.mk ?_ rfl | refine Final.mk ?_ ?_ | refine FinalT.mk ?_ ?_ | refine FinalC.allA ?_ | refine ACall.scalA _ _ (pParseInt.ret _ ?_) rfl ?_ | refine AQCall.mkA _ _ (fun hg => pParseInt.ret _ ?_) rfl ?_)
    | refine AV.bool_congr ?_ | refine AV.int_congr ?_ | refine AV.str_congr ?_ | refine AV.list_congr ?_ | with_reducible rfl | refine fr1 ?_ | refine fr2 ?_ ?_
  all_goals first
    | assumption
    | rfl
theorem test_kind {x : VCond} {b : List VPair} (h : (!isTestF x || !bindF b) = false) : x.1 = 3 ∨ x.1 = 4 ∨ x.1 = 5 := by
  have h1 : isTestF x = true := by revert h; cases isTestF x <;> simp
  unfold isTestF at h1
  rw [Bool.and_eq_true] at h1
  have h2 := h1.1
  simp only [testKind, Bool.or_eq_true, beq_iff_eq] at h2
  omega
theorem pHoldsTest.ret (x : VCond) (b : List VPair) (h : tCond.size x ≤ 1048576) (hb : tPairs.size b ≤ 1048576) : pHoldsTest.Ret [.agg (oldL (tCond.q x)), .list none (pairs b)] (.val (.bool (holdsTF x b))) [] := by
  refine pHoldsTest.ofS rfl rfl ?_
  have hz := tCond_sz x
  have hl : x.2.2.1.length ≤ 1048576 := by omega
  have hr : x.2.2.2.length ≤ 1048576 := by omega
  have hvl := valF_len b _ hb hl
  have hvr := valF_len b _ hb hr
  by_cases hno : (!isTestF x || !bindF b) = true
  · repeat' first
      | contradiction | exact trivial
      | (conv => whnf
         first | refine Need.mk (fun h => h) ?_ | refine Need.mk rfl ?_ | refine Need.mk ⟨rfl, Nat.le_of_ble_eq_true rfl⟩ ?_ | refine Need.mk (Nat.le_of_ble_eq_true rfl) ?_ | refine Need.fin ?_ | refine Need.mk ?_ ?_ | refine Ix.strsF rfl ?_ | refine Ix.strs rfl ?_ ?_ | refine Cut.strs rfl ?_ ?_ | refine Ix.mapF (fun _ => rfl) ?_ | refine Ix.map (fun _ => rfl) ?_ ?_ | refine Cut.map (fun _ => rfl) ?_ ?_ | refine Fork.yes (by assumption) ?_ | refine Fork.no (by assumption) ?_ | refine Fork.decYes (by omega) ?_ | refine Fork.decNo (by omega) ?_ | refine Fork.dec (fun _ => ?_) (fun _ => ?_) | refine Fork.bne (fun _ => ?_) (fun _ => ?_) | refine Fork.beq (fun _ => ?_) (fun _ => ?_) | refine Fork.seq (fun _ => ?_) (fun _ => ?_) | refine Fork.sne (fun _ => ?_) (fun _ => ?_) | refine Fork.neg (fun _ => ?_) (fun _ => ?_) | refine Fork.mk (fun _ => ?_) (fun _ => ?_) | refine HAlt.mk ?_ ?_ | apply HJoin.mk3 | exact HEnd.mk rfl rfl rfl | refine HEnd.mk ?_ ?_ ?_ | refine Round.mk ?_ | refine NilQ.mk (fun b hb => ?_) | refine forceK_of ?_ | refine forceBx_of ?_ | refine unG_old ?_ | refine unG_gv ?_ | refine Lit.read rfl ?_ | refine FinVal.keep ?_ | refine FinAgg.keep ?_ | refine Final.mk rfl rfl | refine Final.mk ?_ rfl | refine Final.mk ?_ ?_ | refine FinalT.mk ?_ ?_ | refine FinalC.allA ?_ | refine ACall.scalA _ _ (pIsTest.ret _ ?_) rfl ?_ | refine AQCall.mkA _ _ (fun hg => pIsTest.ret _ ?_) rfl ?_ | refine ACall.scalA _ _ (pIsBinding.ret _ ?_) rfl ?_ | refine AQCall.mkA _ _ (fun hg => pIsBinding.ret _ ?_) rfl ?_)
      | refine AV.bool_congr ?_ | refine AV.int_congr ?_ | refine AV.str_congr ?_ | refine AV.list_congr ?_ | with_reducible rfl | refine fr1 ?_ | refine fr2 ?_ ?_
    all_goals first
      | assumption
      | exact holds_no1 (by assumption)
      | contradiction
  have hyes : (!isTestF x || !bindF b) = false := by simpa using hno
  by_cases hno2 : (!(valF b x.2.2.1).2 || !(valF b x.2.2.2).2) = true
  · repeat' first
      | contradiction | exact trivial
      | (conv => whnf
         first | refine Need.mk (fun h => h) ?_ | refine Need.mk rfl ?_ | refine Need.mk ⟨rfl, Nat.le_of_ble_eq_true rfl⟩ ?_ | refine Need.mk (Nat.le_of_ble_eq_true rfl) ?_ | refine Need.fin ?_ | refine Need.mk ?_ ?_ | refine Ix.strsF rfl ?_ | refine Ix.strs rfl ?_ ?_ | refine Cut.strs rfl ?_ ?_ | refine Ix.mapF (fun _ => rfl) ?_ | refine Ix.map (fun _ => rfl) ?_ ?_ | refine Cut.map (fun _ => rfl) ?_ ?_ | refine Fork.yes (by assumption) ?_ | refine Fork.no (by assumption) ?_ | refine Fork.decYes (by omega) ?_ | refine Fork.decNo (by omega) ?_ | refine Fork.dec (fun _ => ?_) (fun _ => ?_) | refine Fork.bne (fun _ => ?_) (fun _ => ?_) | refine Fork.beq (fun _ => ?_) (fun _ => ?_) | refine Fork.seq (fun _ => ?_) (fun _ => ?_) | refine Fork.sne (fun _ => ?_) (fun _ => ?_) | refine Fork.neg (fun _ => ?_) (fun _ => ?_) | refine Fork.mk (fun _ => ?_) (fun _ => ?_) | refine HAlt.mk ?_ ?_ | apply HJoin.mk3 | exact HEnd.mk rfl rfl rfl | refine HEnd.mk ?_ ?_ ?_ | refine Round.mk ?_ | refine NilQ.mk (fun b hb => ?_) | refine forceK_of ?_ | refine forceBx_of ?_ | refine unG_old ?_ | refine unG_gv ?_ | refine Lit.read rfl ?_ | refine FinVal.keep ?_ | refine FinAgg.keep ?_ | refine Final.mk rfl rfl | refine Final.mk ?_ rfl | refine Final.mk ?_ ?_ | refine FinalT.mk ?_ ?_ | refine FinalC.allA ?_ | refine ACall.scalA _ _ (pIsTest.ret _ ?_) rfl ?_ | refine AQCall.mkA _ _ (fun hg => pIsTest.ret _ ?_) rfl ?_ | refine ACall.scalA _ _ (pIsBinding.ret _ ?_) rfl ?_ | refine AQCall.mkA _ _ (fun hg => pIsBinding.ret _ ?_) rfl ?_ | refine ACall.scalA _ _ (pValueOf.ret _ _ ?_ ?_) rfl ?_ | refine AQCall.mkA _ _ (fun hg => pValueOf.ret _ _ ?_ ?_) rfl ?_)
      | refine AV.bool_congr ?_ | refine AV.int_congr ?_ | refine AV.str_congr ?_ | refine AV.list_congr ?_ | with_reducible rfl | refine fr1 ?_ | refine fr2 ?_ ?_
    all_goals first
      | assumption
      | exact holds_no1 (by assumption)
      | exact holds_no2 (by assumption)
      | contradiction
  have hyes2 : (!(valF b x.2.2.1).2 || !(valF b x.2.2.2).2) = false := by simpa using hno2
  rcases test_kind hyes with hk | hk | hk
  · have hc : pcomparisonOf.Ret [.val (.int .i64 x.1)] (.tup [.agg [.val (.int .i64 3), .str [61], .clo 80 [] []], .val (.bool true)]) [(75, 3, 3)] := by rw [hk]; exact cmp3
    repeat' first
      | contradiction | exact trivial
      | (conv => whnf
         first | refine Need.mk (fun h => h) ?_ | refine Need.mk rfl ?_ | refine Need.mk ⟨rfl, Nat.le_of_ble_eq_true rfl⟩ ?_ | refine Need.mk (Nat.le_of_ble_eq_true rfl) ?_ | refine Need.fin ?_ | refine Need.mk ?_ ?_ | refine Ix.strsF rfl ?_ | refine Ix.strs rfl ?_ ?_ | refine Cut.strs rfl ?_ ?_ | refine Ix.mapF (fun _ => rfl) ?_ | refine Ix.map (fun _ => rfl) ?_ ?_ | refine Cut.map (fun _ => rfl) ?_ ?_ | refine Fork.yes (by assumption) ?_ | refine Fork.no (by assumption) ?_ | refine Fork.decYes (by omega) ?_ | refine Fork.decNo (by omega) ?_ | refine Fork.dec (fun _ => ?_) (fun _ => ?_) | refine Fork.bne (fun _ => ?_) (fun _ => ?_) | refine Fork.beq (fun _ => ?_) (fun _ => ?_) | refine Fork.seq (fun _ => ?_) (fun _ => ?_) | refine Fork.sne (fun _ => ?_) (fun _ => ?_) | refine Fork.neg (fun _ => ?_) (fun _ => ?_) | refine Fork.mk (fun _ => ?_) (fun _ => ?_) | refine HAlt.mk ?_ ?_ | apply HJoin.mk3 | exact HEnd.mk rfl rfl rfl | refine HEnd.mk ?_ ?_ ?_ | refine Round.mk ?_ | refine NilQ.mk (fun b hb => ?_) | refine forceK_of ?_ | refine forceBx_of ?_ | refine unG_old ?_ | refine unG_gv ?_ | refine Lit.read rfl ?_ | refine FinVal.keep ?_ | refine FinAgg.keep ?_ | refine Final.mk rfl rfl | refine Final.mk ?_ rfl | refine Final.mk ?_ ?_ | refine FinalT.mk ?_ ?_ | refine FinalC.allA ?_ | refine ACall.scalA _ _ (pIsTest.ret _ ?_) rfl ?_ | refine AQCall.mkA _ _ (fun hg => pIsTest.ret _ ?_) rfl ?_ | refine ACall.scalA _ _ (pIsBinding.ret _ ?_) rfl ?_ | refine AQCall.mkA _ _ (fun hg => pIsBinding.ret _ ?_) rfl ?_ | refine ACall.scalA _ _ (pValueOf.ret _ _ ?_ ?_) rfl ?_ | refine AQCall.mkA _ _ (fun hg => pValueOf.ret _ _ ?_ ?_) rfl ?_ | refine ACall.mkR _ _ _ (hc) ?_ | refine ACall.scalA _ _ (pcmp1.ret _ _) rfl ?_ | refine AQCall.mkA _ _ (fun hg => pcmp1.ret _ _) rfl ?_)
      | refine AV.bool_congr ?_ | refine AV.int_congr ?_ | refine AV.str_congr ?_ | refine AV.list_congr ?_ | with_reducible rfl | refine fr1 ?_ | refine fr2 ?_ ?_
    all_goals first
      | assumption
      | contradiction
      | (rw [← holds_at hyes hyes2, opF, if_pos hk])
  · have hc : pcomparisonOf.Ret [.val (.int .i64 x.1)] (.tup [.agg [.val (.int .i64 4), .str [33, 61], .clo 81 [] []], .val (.bool true)]) [(75, 3, 3)] := by rw [hk]; exact cmp4
    repeat' first
      | contradiction | exact trivial
      | (conv => whnf
         first | refine Need.mk (fun h => h) ?_ | refine Need.mk rfl ?_ | refine Need.mk ⟨rfl, Nat.le_of_ble_eq_true rfl⟩ ?_ | refine Need.mk (Nat.le_of_ble_eq_true rfl) ?_ | refine Need.fin ?_ | refine Need.mk ?_ ?_ | refine Ix.strsF rfl ?_ | refine Ix.strs rfl ?_ ?_ | refine Cut.strs rfl ?_ ?_ | refine Ix.mapF (fun _ => rfl) ?_ | refine Ix.map (fun _ => rfl) ?_ ?_ | refine Cut.map (fun _ => rfl) ?_ ?_ | refine Fork.yes (by assumption) ?_ | refine Fork.no (by assumption) ?_ | refine Fork.decYes (by omega) ?_ | refine Fork.decNo (by omega) ?_ | refine Fork.dec (fun _ => ?_) (fun _ => ?_) | refine Fork.bne (fun _ => ?_) (fun _ => ?_) | refine Fork.beq (fun _ => ?_) (fun _ => ?_) | refine Fork.seq (fun _ => ?_) (fun _ => ?_) | refine Fork.sne (fun _ => ?_) (fun _ => ?_) | refine Fork.neg (fun _ => ?_) (fun _ => ?_) | refine Fork.mk (fun _ => ?_) (fun _ => ?_) | refine HAlt.mk ?_ ?_ | apply HJoin.mk3 | exact HEnd.mk rfl rfl rfl | refine HEnd.mk ?_ ?_ ?_ | refine Round.mk ?_ | refine NilQ.mk (fun b hb => ?_) | refine forceK_of ?_ | refine forceBx_of ?_ | refine unG_old ?_ | refine unG_gv ?_ | refine Lit.read rfl ?_ | refine FinVal.keep ?_ | refine FinAgg.keep ?_ | refine Final.mk rfl rfl | refine Final.mk ?_ rfl | refine Final.mk ?_ ?_ | refine FinalT.mk ?_ ?_ | refine FinalC.allA ?_ | refine ACall.scalA _ _ (pIsTest.ret _ ?_) rfl ?_ | refine AQCall.mkA _ _ (fun hg => pIsTest.ret _ ?_) rfl ?_ | refine ACall.scalA _ _ (pIsBinding.ret _ ?_) rfl ?_ | refine AQCall.mkA _ _ (fun hg => pIsBinding.ret _ ?_) rfl ?_ | refine ACall.scalA _ _ (pValueOf.ret _ _ ?_ ?_) rfl ?_ | refine AQCall.mkA _ _ (fun hg => pValueOf.ret _ _ ?_ ?_) rfl ?_ | refine ACall.mkR _ _ _ (hc) ?_ | refine ACall.scalA _ _ (pcmp2.ret _ _) rfl ?_ | refine AQCall.mkA _ _ (fun hg => pcmp2.ret _ _) rfl ?_)
      | refine AV.bool_congr ?_ | refine AV.int_congr ?_ | refine AV.str_congr ?_ | refine AV.list_congr ?_ | with_reducible rfl | refine fr1 ?_ | refine fr2 ?_ ?_
    all_goals first
      | assumption
      | contradiction
      | (rw [← holds_at hyes hyes2, opF, if_neg (by omega), if_pos hk])
  · have hc : pcomparisonOf.Ret [.val (.int .i64 x.1)] (.tup [.agg [.val (.int .i64 5), .str [60], .clo 82 [] []], .val (.bool true)]) [(75, 3, 3)] := by rw [hk]; exact cmp5
    repeat' first
      | contradiction | exact trivial
      | (conv => whnf
         first | refine Need.mk (fun h => h) ?_ | refine Need.mk rfl ?_ | refine Need.mk ⟨rfl, Nat.le_of_ble_eq_true rfl⟩ ?_ | refine Need.mk (Nat.le_of_ble_eq_true rfl) ?_ | refine Need.fin ?_ | refine Need.mk ?_ ?_ | refine Ix.strsF rfl ?_ | refine Ix.strs rfl ?_ ?_ | refine Cut.strs rfl ?_ ?_ | refine Ix.mapF (fun _ => rfl) ?_ | refine Ix.map (fun _ => rfl) ?_ ?_ | refine Cut.map (fun _ => rfl) ?_ ?_ | refine Fork.yes (by assumption) ?_ | refine Fork.no (by assumption) ?_ | refine Fork.decYes (by omega) ?_ | refine Fork.decNo (by omega) ?_ | refine Fork.dec (fun _ => ?_) (fun _ => ?_) | refine Fork.bne (fun _ => ?_) (fun _ => ?_) | refine Fork.beq (fun _ => ?_) (fun _ => ?_) | refine Fork.seq (fun _ => ?_) (fun _ => ?_) | refine Fork.sne (fun _ => ?_) (fun _ => ?_) | refine Fork.neg (fun _ => ?_) (fun _ => ?_) | refine Fork.mk (fun _ => ?_) (fun _ => ?_) | refine HAlt.mk ?_ ?_ | apply HJoin.mk3 | exact HEnd.mk rfl rfl rfl | refine HEnd.mk ?_ ?_ ?_ | refine Round.mk ?_ | refine NilQ.mk (fun b hb => ?_) | refine forceK_of ?_ | refine forceBx_of ?_ | refine unG_old ?_ | refine unG_gv ?_ | refine Lit.read rfl ?_ | refine FinVal.keep ?_ | refine FinAgg.keep ?_ | refine Final.mk rfl rfl | refine Final.mk ?_ rfl | refine Final.mk ?_ ?_ | refine FinalT.mk ?_ ?_ | refine FinalC.allA ?_ | refine ACall.scalA _ _ (pIsTest.ret _ ?_) rfl ?_ | refine AQCall.mkA _ _ (fun hg => pIsTest.ret _ ?_) rfl ?_ | refine ACall.scalA _ _ (pIsBinding.ret _ ?_) rfl ?_ | refine AQCall.mkA _ _ (fun hg => pIsBinding.ret _ ?_) rfl ?_ | refine ACall.scalA _ _ (pValueOf.ret _ _ ?_ ?_) rfl ?_ | refine AQCall.mkA _ _ (fun hg => pValueOf.ret _ _ ?_ ?_) rfl ?_ | refine ACall.mkR _ _ _ (hc) ?_ | refine ACall.scalA _ _ (pisLessNumber.ret _ _ ?_ ?_) rfl ?_ | refine AQCall.mkA _ _ (fun hg => pisLessNumber.ret _ _ ?_ ?_) rfl ?_)
      | refine AV.bool_congr ?_ | refine AV.int_congr ?_ | refine AV.str_congr ?_ | refine AV.list_congr ?_ | with_reducible rfl | refine fr1 ?_ | refine fr2 ?_ ?_
    all_goals first
      | assumption
      | contradiction
      | (rw [← holds_at hyes hyes2, opF, if_neg (by omega), if_neg (by omega)])
end Go.Proofs.YtfffboofmccfhaaGreat
namespace Go.Proofs.YtfffboofmccfhaaGreat
open Abs
def fctsT (l : List Fct) : Tr := .l 58 2 (l.map tFct.q)
end Go.Proofs.YtfffboofmccfhaaGreat
