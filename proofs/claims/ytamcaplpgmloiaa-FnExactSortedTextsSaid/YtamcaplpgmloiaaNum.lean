/-
  Numbers as digits.
-/
import Derived.Test.YtamcaplpgmloiaaC1
namespace Go.Proofs.Ytamcaplpgmloiaa
open Abs

def fmt (n : Nat) : Str := if h : n < 10 then [UInt8.ofNat (48 + n)] else fmt (n / 10) ++ [UInt8.ofNat (48 + n % 10)]
termination_by n
decreasing_by omega

def dval (n : Nat) (c : UInt8) : Nat := 10 * n + (c.toNat - 48)
def valA (a : Nat) (s : Str) : Nat := s.foldl dval a
def dig (c : UInt8) : Bool := digit c.toNat
theorem dig_range {c : UInt8} (h : dig c = true) : 48 ≤ c.toNat ∧ c.toNat ≤ 57 := by
  simp [dig, digit] at h; omega

theorem fmt_small {n : Nat} (h : n < 10) : fmt n = [UInt8.ofNat (48 + n)] := by rw [fmt, dif_pos h]
theorem fmt_big {n : Nat} (h : 10 ≤ n) : fmt n = fmt (n / 10) ++ [UInt8.ofNat (48 + n % 10)] := by rw [fmt, dif_neg (by omega)]

theorem ofNat_dig {c : UInt8} (h : dig c = true) : UInt8.ofNat (48 + (c.toNat - 48)) = c := by
  have := dig_range h
  have e : 48 + (c.toNat - 48) = c.toNat := by omega
  rw [e]; exact UInt8.ofNat_toNat

theorem valA_lt {s : Str} (h : s.all dig = true) (a : Nat) : valA a s < (a + 1) * 10 ^ s.length := by
  induction s generalizing a with
  | nil => simp [valA]
  | cons c s ih =>
    simp only [List.all_cons, Bool.and_eq_true] at h
    have h1 := ih h.2 (dval a c)
    have h2 := dig_range h.1
    have h3 : (dval a c + 1) ≤ (a + 1) * 10 := by unfold dval; omega
    have h4 := Nat.mul_le_mul_right (10 ^ s.length) h3
    have h5 : (a + 1) * 10 * 10 ^ s.length = (a + 1) * 10 ^ (c :: s).length := by rw [List.length_cons, Nat.pow_succ, Nat.mul_assoc, Nat.mul_comm 10]
    show valA (dval a c) s < _
    omega
theorem valA_ge (s : Str) (a : Nat) : a * 10 ^ s.length ≤ valA a s := by
  induction s generalizing a with
  | nil => simp [valA]
  | cons c s ih =>
    have h1 := ih (dval a c)
    have h3 : a * 10 ≤ dval a c := by unfold dval; omega
    have h4 := Nat.mul_le_mul_right (10 ^ s.length) h3
    have h5 : a * 10 * 10 ^ s.length = a * 10 ^ (c :: s).length := by rw [List.length_cons, Nat.pow_succ, Nat.mul_assoc, Nat.mul_comm 10]
    show _ ≤ valA (dval a c) s
    omega
theorem fmt_valA {s : Str} (h : s.all dig = true) (a : Nat) (ha : 0 < a) : fmt (valA a s) = fmt a ++ s := by
  induction s generalizing a with
  | nil => simp [valA]
  | cons c s ih =>
    simp only [List.all_cons, Bool.and_eq_true] at h
    have h2 := dig_range h.1
    show fmt (valA (dval a c) s) = _
    rw [ih h.2 (dval a c) (by unfold dval; omega)]
    have h3 : dval a c / 10 = a := by unfold dval; omega
    have h4 : dval a c % 10 = c.toNat - 48 := by unfold dval; omega
    rw [fmt_big (n := dval a c) (by unfold dval; omega), h3, h4, ofNat_dig h.1]
    simp
theorem fmt_head (n : Nat) (h : 0 < n) : ∃ c r, fmt n = c :: r ∧ c ≠ 48 := by
  induction n using Nat.strongRecOn with
  | _ n ih =>
    rcases Nat.lt_or_ge n 10 with h1 | h1
    · refine ⟨_, [], fmt_small h1, fun e => ?_⟩
      have := congrArg UInt8.toNat e
      simp at this
      omega
    · obtain ⟨c, r, e, hc⟩ := ih (n / 10) (by omega) (by omega)
      exact ⟨c, r ++ [_], by rw [fmt_big h1, e]; rfl, hc⟩

/-- a text that is a number, as it is written -/
def isNum (s : Str) : Bool := match s with
  | [] => false
  | [c] => dig c
  | c :: d :: s => (c :: d :: s).all dig && c != 48
theorem fmt_of_isNum {s : Str} (h : isNum s = true) : fmt (valA 0 s) = s := by
  match s, h with
  | [c], h =>
    have h2 := dig_range h
    have e : valA 0 [c] = c.toNat - 48 := by simp [valA, dval]
    rw [e, fmt_small (by omega), ofNat_dig h]
  | c :: d :: s, h =>
    simp only [isNum, Bool.and_eq_true, bne_iff_ne, ne_eq] at h
    have hc : dig c = true := by have := h.1; simp only [List.all_cons, Bool.and_eq_true] at this; exact this.1
    have hs : (d :: s).all dig = true := by have := h.1; rw [List.all_cons, Bool.and_eq_true] at this; exact this.2
    have h2 := dig_range hc
    have h3 : c.toNat ≠ 48 := fun e => h.2 (by rw [← UInt8.ofNat_toNat (x := c), e]; rfl)
    show fmt (valA (dval 0 c) (d :: s)) = _
    have e : dval 0 c = c.toNat - 48 := by simp [dval]
    rw [e, fmt_valA hs _ (by omega), fmt_small (by omega), ofNat_dig hc]
    rfl
theorem isNum_of_fmt {s : Str} (hd : s.all dig = true) (h : fmt (valA 0 s) = s) : isNum s = true := by
  match s, hd, h with
  | [], _, h =>
    exfalso
    have : fmt (valA 0 []) = [48] := by simp [valA, fmt_small]
    rw [this] at h; cases h
  | [c], hd, _ => simpa [isNum] using hd
  | c :: d :: s, hd, h =>
    simp only [isNum, hd, Bool.true_and, bne_iff_ne, ne_eq]
    intro hc
    subst hc
    rcases Nat.eq_zero_or_pos (valA 0 (48 :: d :: s)) with h0 | h0
    · rw [h0] at h
      have : fmt 0 = [48] := by simp [fmt_small]
      rw [this] at h; cases h
    · obtain ⟨c, r, e, hc⟩ := fmt_head _ h0
      rw [h] at e; cases e; exact hc rfl
theorem isNum_digits {s : Str} (h : isNum s = true) : s.all dig = true := by
  match s, h with
  | [c], h => simpa [isNum] using h
  | c :: d :: s, h => simp only [isNum, Bool.and_eq_true] at h; exact h.1
theorem isNum_len {s : Str} (h : isNum s = true) (hv : valA 0 s ≤ 9999) : s.length ≤ 4 := by
  match s, h with
  | [c], _ => simp
  | c :: d :: s, h =>
    have hd := isNum_digits h
    simp only [isNum, Bool.and_eq_true, bne_iff_ne, ne_eq] at h
    have hc : dig c = true := by have := h.1; simp only [List.all_cons, Bool.and_eq_true] at this; exact this.1
    have h2 := dig_range hc
    have h3 : c.toNat ≠ 48 := fun e => h.2 (by rw [← UInt8.ofNat_toNat (x := c), e]; rfl)
    have h4 : valA (dval 0 c) (d :: s) ≤ 9999 := hv
    have h5 := valA_ge (d :: s) (dval 0 c)
    rcases Nat.lt_or_ge 4 (c :: d :: s).length with h6 | h6
    · exfalso
      have h7 : 10 ^ 4 ≤ 10 ^ (d :: s).length := Nat.pow_le_pow_right (by omega) (by simp at h6 ⊢; omega)
      have h8 : 1 ≤ dval 0 c := by unfold dval; omega
      have h9 := Nat.mul_le_mul h8 h7
      omega
    · exact h6
def numF (s : Str) : Bool := isNum s && decide (s.length ≤ 4)
def parseF (s : Str) : Int × Bool := if numF s then (valA 0 s, true) else (0, false)
theorem valA_lt4 {s : Str} (h : s.all dig = true) (hl : s.length ≤ 4) : valA 0 s ≤ 9999 := by
  have h1 := valA_lt h 0
  have h2 : 10 ^ s.length ≤ 10 ^ 4 := Nat.pow_le_pow_right (by omega) hl
  omega
theorem fmt_len4 {n : Nat} (h : n ≤ 9999) : (fmt n).length ≤ 4 := by
  rcases Nat.lt_or_ge n 10 with h1 | h1
  · rw [fmt_small h1]; simp
  rw [fmt_big h1]
  rcases Nat.lt_or_ge (n / 10) 10 with h2 | h2
  · rw [fmt_small h2]; simp
  rw [fmt_big h2]
  rcases Nat.lt_or_ge (n / 10 / 10) 10 with h3 | h3
  · rw [fmt_small h3]; simp
  rw [fmt_big h3]
  rw [fmt_small (n := n / 10 / 10 / 10) (by omega)]; simp
theorem valA_snoc (s : Str) (c : UInt8) : valA 0 (s ++ [c]) = 10 * valA 0 s + (c.toNat - 48) := by
  unfold valA; rw [List.foldl_append]; rfl
end Go.Proofs.Ytamcaplpgmloiaa
