/-
  Lists of strings, numbers and the like as slices; small laws for what the evaluator leaves.
-/
import Derived.Test.YtnpjjbolonbndaaIr
namespace Go.Proofs.Ytnpjjbolonbndaa
namespace Abs

theorem Fork.dec {c : Prop} [Decidable c] {p q : Prop} (h : c → p) (k : ¬ c → q) : Fork (decide c) p q := ⟨fun e => h (of_decide_eq_true e), fun e => k (of_decide_eq_false e)⟩
theorem Fork.yes {b : Bool} {p q : Prop} (h : b = true) (k : p) : Fork b p q := ⟨fun _ => k, fun e => absurd (h.symm.trans e) (by decide)⟩
theorem Fork.no {b : Bool} {p q : Prop} (h : b = false) (k : q) : Fork b p q := ⟨fun e => absurd (h.symm.trans e) (by decide), fun _ => k⟩
theorem Fork.decYes {c : Prop} [Decidable c] {p q : Prop} (h : c) (k : p) : Fork (decide c) p q := .yes (decide_eq_true h) k
theorem Fork.decNo {c : Prop} [Decidable c] {p q : Prop} (h : ¬ c) (k : q) : Fork (decide c) p q := .no (decide_eq_false h) k
theorem bl_irrefl : ∀ s : Str, Op.bytesLess s s = false
  | [] => rfl
  | c :: s => by simp [Op.bytesLess, bl_irrefl s]
theorem Fork.neg {b : Bool} {p q : Prop} (h : b = false → p) (k : b = true → q) : Fork (!b) p q := ⟨fun e => h (by simpa using e), fun e => k (by simpa using e)⟩
theorem Fork.bne {a b : Int} {p q : Prop} (h : a ≠ b → p) (k : a = b → q) : Fork (a != b) p q := ⟨fun e => h (by simpa using e), fun e => k (by simpa using e)⟩
theorem Fork.beq {a b : Int} {p q : Prop} (h : a = b → p) (k : a ≠ b → q) : Fork (a == b) p q := ⟨fun e => h (by simpa using e), fun e => k (by simpa using e)⟩
theorem Fork.seq {a b : Str} {p q : Prop} (h : a = b → p) (k : a ≠ b → q) : Fork (a == b) p q := ⟨fun e => h (by simpa using e), fun e => k (by simpa using e)⟩
theorem Fork.sne {a b : Str} {p q : Prop} (h : a ≠ b → p) (k : a = b → q) : Fork (!(a == b)) p q := ⟨fun e => h (by simpa using e), fun e => k (by simpa using e)⟩

theorem fr1 {t s a b : Nat} (h : a = b) : [(t, s, a)] = [(t, s, b)] := by rw [h]
theorem fr2 {t s a b t' s' a' b' : Nat} (h : a = b) (h' : a' = b') : [(t, s, a), (t', s', a')] = [(t, s, b), (t', s', b')] := by rw [h, h']
theorem AV.int_congr {k : IntKind} {a b : Int} (h : a = b) : AV.val (.int k a) = AV.val (.int k b) := by rw [h]
theorem AV.bool_congr {a b : Bool} (h : a = b) : AV.val (.bool a) = AV.val (.bool b) := by rw [h]
theorem AV.str_congr {a b : Str} (h : a = b) : AV.str a = AV.str b := by rw [h]
theorem AV.list_congr {o : Option Nat} {a b : List (List AV)} (h : a = b) : AV.list o a = AV.list o b := by rw [h]
theorem AV.tup2_congr {a b a' b' : AV} (h : a = b) (h' : a' = b') : AV.tup [a, a'] = AV.tup [b, b'] := by rw [h, h']

theorem wrap64 {x : Int} (h0 : -9223372036854775808 ≤ x) (h1 : x ≤ 9223372036854775807) : IntKind.i64.wrap x = x := by
  have := Go.IntWalk.i64_in x ⟨h0, h1⟩
  exact this

/-- a list of strings -/
def strs (l : List Str) : List (List AV) := l.map fun s => [.str s]
@[simp] theorem length_strs (l : List Str) : (strs l).length = l.length := by simp [strs]
theorem strs_append (a b : List Str) : strs (a ++ b) = strs a ++ strs b := by simp [strs]
theorem strs_cons (a : Str) (b : List Str) : strs (a :: b) = [.str a] :: strs b := rfl
theorem strs_nil : strs [] = [] := rfl
@[simp] theorem strs_sz (l : List Str) : ∀ c ∈ strs l, c.length = 1 := by
  intro c hc
  obtain ⟨s, _, rfl⟩ := List.mem_map.1 hc
  rfl
@[simp] theorem mapTLL_strs (f : Nat → Option Nat) (l : List Str) : mapTLL f (strs l) = strs l := by
  rw [mapTLL_eq, strs, List.map_map]
  rfl
theorem Ix.strs {gd : Bool} {l : List Str} {i : Int} {sz : Nat} {k : List AV → Prop} (hs : 1 = sz) (h : gd = true → 0 ≤ i ∧ i < l.length) (hk : k [.str (l.getD i.toNat [])]) : Ix gd (Abs.strs l) i sz k :=
  ⟨_, fun hg => by
    obtain ⟨h0, h1⟩ := h hg
    have : i.toNat < l.length := by omega
    exact ⟨h0, by simp [Abs.strs, this], hs⟩, hk⟩
theorem Cut.strs {gd : Bool} {l : List Str} {lo hi : Int} {sz : Nat} {k : List (List AV) → Prop} (hs : 1 = sz) (h : gd = true → 0 ≤ lo ∧ lo ≤ hi ∧ hi ≤ l.length) (hk : k (Abs.strs ((l.take hi.toNat).drop lo.toNat))) : Cut gd (Abs.strs l) lo hi sz k :=
  ⟨_, fun hg => by
    obtain ⟨h0, h1, h2⟩ := h hg
    subst hs
    exact ⟨h0, h1, by rw [length_strs]; exact h2, strs_sz l, by simp [Abs.strs]⟩, hk⟩

/-- one more element of a list -/
theorem take_succ' {α : Type} {l : List α} {i : Nat} (d : α) (h : i < l.length) : l.take (i + 1) = l.take i ++ [l.getD i d] := by
  rw [List.take_succ_eq_append_getElem h]
  simp [List.getD, h]
theorem foldl_take_succ {α β : Type} {l : List α} {i : Nat} (d : α) (f : β → α → β) (b : β) (h : i < l.length) : (l.take (i + 1)).foldl f b = f ((l.take i).foldl f b) (l.getD i d) := by
  rw [take_succ' d h, List.foldl_append]; rfl
end Abs
end Go.Proofs.Ytnpjjbolonbndaa
