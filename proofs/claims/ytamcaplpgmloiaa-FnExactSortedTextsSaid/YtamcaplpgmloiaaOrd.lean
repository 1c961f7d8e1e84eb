/-
  Strict orders; lists that ascend; inserting one by one, sorting, and leaving out what is there twice.
-/
import Derived.Test.YtamcaplpgmloiaaC11
import Derived.Lib.SlicesCompact
import Derived.Sort.Statements
namespace Go.Proofs.Ytamcaplpgmloiaa
open Abs

structure STO {α : Type} (lt : α → α → Bool) : Prop where
  irrefl : ∀ x, lt x x = false
  trans : ∀ x y z, lt x y = true → lt y z = true → lt x z = true
  tri : ∀ x y, lt x y = false → lt y x = false → x = y
section
variable {α : Type} {lt : α → α → Bool}
theorem STO.asymm (h : STO lt) {x y : α} (hxy : lt x y = true) : lt y x = false := by
  cases hyx : lt y x with
  | false => rfl
  | true => have := h.trans x y x hxy hyx; rw [h.irrefl] at this; cases this
theorem STO.swo [Inhabited α] (h : STO lt) : Go.Sort.SWO lt where
  irrefl := h.irrefl
  trans := h.trans
  ntrans x y z h1 h2 := by
    cases hxz : lt x z with
    | false => rfl
    | true =>
      cases hyx : lt y x with
      | true => have := h.trans y x z hyx hxz; rw [this] at h2; cases h2
      | false => have := h.tri x y h1 hyx; subst this; rw [h2] at hxz; cases hxz
def Asc (lt : α → α → Bool) (l : List α) : Prop := l.Pairwise fun x y => lt x y = true
theorem Asc.nodup (h : STO lt) {l : List α} (hl : Asc lt l) : l.Nodup := hl.imp fun {x y} hxy e => by subst e; rw [h.irrefl] at hxy; cases hxy
/-- ascending lists with the same members are one -/
theorem Asc.unique (h : STO lt) : ∀ {l m : List α}, Asc lt l → Asc lt m → (∀ x, x ∈ l ↔ x ∈ m) → l = m
  | [], [], _, _, _ => rfl
  | [], y :: m, _, _, hm => absurd ((hm y).2 (by simp)) (by simp)
  | x :: l, [], _, _, hm => absurd ((hm x).1 (by simp)) (by simp)
  | x :: l, y :: m, hl, hr, hm => by
    obtain ⟨h1, h2⟩ := List.pairwise_cons.1 hl
    obtain ⟨h3, h4⟩ := List.pairwise_cons.1 hr
    have hxy : x = y := by
      rcases List.mem_cons.1 ((hm x).1 (by simp)) with e | hx
      · exact e
      · rcases List.mem_cons.1 ((hm y).2 (by simp)) with e | hy
        · exact e.symm
        · have := h.asymm (h3 x hx); rw [h1 y hy] at this; cases this
    subst hxy
    congr 1
    refine Asc.unique h h2 h4 fun z => ⟨fun hz => ?_, fun hz => ?_⟩
    · rcases List.mem_cons.1 ((hm z).1 (by simp [hz])) with e | hz'
      · subst e; have := h1 z hz; rw [h.irrefl] at this; cases this
      · exact hz'
    · rcases List.mem_cons.1 ((hm z).2 (by simp [hz])) with e | hz'
      · subst e; have := h3 z hz; rw [h.irrefl] at this; cases this
      · exact hz'

/-- put in at its place, unless it is there -/
def ins (lt : α → α → Bool) (s : α) : Bool → List α → List α
  | d, [] => if d then [] else [s]
  | true, x :: l => x :: ins lt s true l
  | false, x :: l => if lt x s then x :: ins lt s false l else if lt s x then s :: x :: ins lt s true l else x :: ins lt s true l
theorem ins_true (s : α) : ∀ l, ins lt s true l = l
  | [] => rfl
  | x :: l => by rw [ins, ins_true s l]
theorem ins_mem (h : STO lt) (s : α) : ∀ l x, x ∈ ins lt s false l ↔ x = s ∨ x ∈ l
  | [], x => by simp [ins]
  | y :: l, x => by
    rw [ins]
    split
    · rw [List.mem_cons, ins_mem h s l x, List.mem_cons]
      exact ⟨fun h => by rcases h with h | h | h <;> simp [h], fun h => by rcases h with h | h | h <;> simp [h]⟩
    · rename_i h1
      split
      · rw [ins_true]; simp
      · rename_i h2
        rw [ins_true]
        have : y = s := h.tri y s (by simpa using h1) (by simpa using h2)
        subst this; simp
theorem ins_asc (h : STO lt) (s : α) : ∀ l, Asc lt l → Asc lt (ins lt s false l)
  | [], _ => by simp [ins, Asc]
  | y :: l, hl => by
    obtain ⟨h1, h2⟩ := List.pairwise_cons.1 hl
    rw [ins]
    split
    · rename_i hy
      refine List.pairwise_cons.2 ⟨fun z hz => ?_, ins_asc h s l h2⟩
      rcases (ins_mem h s l z).1 hz with rfl | hz
      · exact hy
      · exact h1 z hz
    · split
      · rename_i hs
        rw [ins_true]
        refine List.pairwise_cons.2 ⟨fun z hz => ?_, hl⟩
        rcases List.mem_cons.1 hz with rfl | hz
        · exact hs
        · exact h.trans _ _ _ hs (h1 z hz)
      · rw [ins_true]; exact hl
theorem ins_len (s : α) : ∀ (d : Bool) (l : List α), (ins lt s d l).length ≤ l.length + 1
  | true, l => by rw [ins_true]; omega
  | false, [] => by simp [ins]
  | false, y :: l => by
    have := ins_len s false l
    rw [ins]
    split
    · simp only [List.length_cons]; omega
    · split <;> simp [ins_true]
/-- one by one -/
def insAll (lt : α → α → Bool) (l : List α) : List α := l.foldl (fun a s => ins lt s false a) []
theorem insAll_take_succ {l : List α} {i : Nat} (d : α) (h : i < l.length) : insAll lt (l.take (i + 1)) = ins lt (l.getD i d) false (insAll lt (l.take i)) := by
  unfold insAll; exact foldl_take_succ d _ _ h
theorem insAll_asc (h : STO lt) (l : List α) : Asc lt (insAll lt l) := by
  have : ∀ (l a : List α), Asc lt a → Asc lt (l.foldl (fun a s => ins lt s false a) a) := fun l => by
    induction l with
    | nil => exact fun a ha => ha
    | cons x l ih => exact fun a ha => ih _ (ins_asc h x a ha)
  exact this l [] .nil
theorem insAll_mem (h : STO lt) (l : List α) (x : α) : x ∈ insAll lt l ↔ x ∈ l := by
  have : ∀ (l a : List α), x ∈ l.foldl (fun a s => ins lt s false a) a ↔ x ∈ l ∨ x ∈ a := fun l => by
    induction l with
    | nil => simp
    | cons y l ih =>
      intro a
      rw [List.foldl_cons, ih, ins_mem h, List.mem_cons]
      exact ⟨fun h => by rcases h with h | h | h <;> simp [h], fun h => by rcases h with (h | h) | h <;> simp [h]⟩
  unfold insAll; simpa using this l []
theorem insAll_len (l : List α) : (insAll lt l).length ≤ l.length := by
  have : ∀ (l a : List α), (l.foldl (fun a s => ins lt s false a) a).length ≤ a.length + l.length := fun l => by
    induction l with
    | nil => simp
    | cons x l ih => intro a; have := ih (ins lt x false a); have := ins_len (lt := lt) x false a; simp only [List.foldl_cons, List.length_cons] at *; omega
  unfold insAll; simpa using this l []

variable [Inhabited α] [DecidableEq α]
/-- what is kept of a sorted list ascends, and nothing is lost -/
theorem compact_asc (h : STO lt) (l : List α) (hs : l.Pairwise fun x y => lt y x = false) : Asc lt (Lib.compact l) ∧ ∀ x, x ∈ Lib.compact l ↔ x ∈ l := by
  have key : ∀ m, m ≤ l.length → Asc lt (Lib.compactUpTo l.toArray m) ∧ (∀ x, x ∈ Lib.compactUpTo l.toArray m ↔ x ∈ l.take m) := by
    intro m
    induction m with
    | zero => intro _; simp [Lib.compactUpTo, Asc]
    | succ m ih =>
      intro hm
      obtain ⟨i1, i2⟩ := ih (by omega)
      have hml : m < l.length := by omega
      have hgm : l.toArray[m]! = l[m] := by simp [hml]
      have htake : l.take (m + 1) = l.take m ++ [l[m]] := by rw [List.take_succ_eq_append_getElem hml]
      rw [Lib.compactUpTo_succ, htake]
      by_cases hk : Lib.keeps l.toArray m = true
      · rw [if_pos hk, hgm]
        refine ⟨List.pairwise_append.2 ⟨i1, by simp, fun x hx y hy => ?_⟩, fun x => by rw [List.mem_append, List.mem_append, i2]⟩
        simp only [List.mem_singleton] at hy; subst hy
        have hx' := (i2 x).1 hx
        obtain ⟨i, hi, hix⟩ := List.getElem_of_mem hx'
        have him : i < m := by simp at hi; omega
        have hil : i < l.length := by omega
        have hxl : l[i] = x := by rw [← hix]; simp
        have hpw := List.pairwise_iff_getElem.1 hs
        -- the one before is another one
        have hne : l[m] ≠ l[m - 1] := by
          simp only [Lib.keeps, decide_eq_true_eq] at hk
          rcases hk with hk | hk
          · omega
          · rw [hgm] at hk
            have : l.toArray[m - 1]! = l[m - 1] := by simp [show m - 1 < l.length by omega]
            rwa [this] at hk
        have hle1 : lt l[m] l[m - 1] = false := hpw (m - 1) m (by omega) hml (by omega)
        have hlt1 : lt l[m - 1] l[m] = true := by
          cases hc : lt l[m - 1] l[m] with
          | true => rfl
          | false => exact absurd (h.tri _ _ hle1 hc) hne
        by_cases him1 : i = m - 1
        · subst him1; rw [← hxl]; exact hlt1
        · have hle2 : lt l[m - 1] l[i] = false := hpw i (m - 1) hil (by omega) (by omega)
          cases hc : lt x l[m] with
          | true => rfl
          | false =>
            exfalso
            rw [← hxl] at hc
            cases hd : lt l[i] l[m - 1] with
            | true => have := h.trans _ _ _ hd hlt1; rw [this] at hc; cases hc
            | false => have := h.tri _ _ hd hle2; rw [this, hlt1] at hc; cases hc
      · rw [if_neg hk, List.append_nil]
        refine ⟨i1, fun x => ?_⟩
        rw [List.mem_append, i2, List.mem_singleton]
        refine ⟨.inl, fun hx => ?_⟩
        rcases hx with hx | rfl
        · exact hx
        · simp only [Lib.keeps, decide_eq_true_eq, not_or, Decidable.not_not] at hk
          have h2 : l.toArray[m - 1]! = l[m - 1] := by simp [show m - 1 < l.length by omega]
          rw [hgm, h2] at hk
          rw [hk.2]
          have h3 : m - 1 < (l.take m).length := by simp; omega
          have h4 : (l.take m)[m - 1] = l[m - 1] := by simp
          rw [← h4]; exact List.getElem_mem h3
  have := key l.length (Nat.le_refl _)
  rw [List.take_length] at this
  exact this
end

/-! texts, byte by byte -/
def blt (a b : Str) : Bool := Op.bytesLess a b
theorem blt_eq : ∀ a b : Str, blt a b = decide (a < b)
  | _, [] => by simp [blt, Op.bytesLess]
  | [], _ :: _ => by simp [blt, Op.bytesLess]
  | a :: x, b :: y => by
    have ih := blt_eq x y
    rw [blt] at ih ⊢
    rw [Op.bytesLess, ih]
    rw [Bool.eq_iff_iff]
    simp only [Bool.or_eq_true, Bool.and_eq_true, decide_eq_true_eq, beq_iff_eq]
    rw [List.cons_lt_cons_iff]
theorem blt_sto : STO blt where
  irrefl x := by rw [blt_eq]; simp [List.lt_irrefl]
  trans x y z h1 h2 := by rw [blt_eq, decide_eq_true_eq] at *; exact List.lt_trans h1 h2
  tri x y h1 h2 := by
    rw [blt_eq, decide_eq_false_iff_not] at *
    exact List.le_antisymm (List.not_lt.1 h2) (List.not_lt.1 h1)

/-! three-way comparisons -/
structure CMP {α : Type} (c : α → α → Int) : Prop where
  zero : ∀ x y, c x y = 0 ↔ x = y
  anti : ∀ x y, c x y < 0 ↔ 0 < c y x
  trans : ∀ x y z, c x y < 0 → c y z < 0 → c x z < 0
def ltC {α : Type} (c : α → α → Int) (x y : α) : Bool := decide (c x y < 0)
theorem CMP.sto {α : Type} {c : α → α → Int} (h : CMP c) : STO (ltC c) where
  irrefl x := by unfold ltC; rw [(h.zero x x).2 rfl]; rfl
  trans x y z h1 h2 := by unfold ltC at *; rw [decide_eq_true_eq] at *; exact h.trans x y z h1 h2
  tri x y h1 h2 := by
    unfold ltC at *
    rw [decide_eq_false_iff_not] at *
    have := h.anti y x
    exact (h.zero x y).1 (by omega)
theorem scmp_cmp : CMP scmp where
  zero _ _ := scmp_zero
  anti x y := by
    have h1 := scmp_zero (a := x) (b := y)
    unfold scmp at h1 ⊢
    have b1 := @STO.asymm _ _ blt_sto x y
    have b2 := blt_sto.tri x y
    unfold blt at b1 b2
    by_cases e : x = y
    · subst e; simp [bl_irrefl]
    · have e' : ¬ y = x := fun h => e h.symm
      cases hx : Op.bytesLess x y <;> cases hy : Op.bytesLess y x <;> simp [e, e']
      · exact e (b2 hx hy)
      · have := b1 hx; rw [this] at hy; cases hy
  trans x y z h1 h2 := by
    have b := blt_sto.trans x y z
    unfold blt at b
    unfold scmp at *
    split at h1
    · rename_i hx
      split at h2
      · rename_i hy; rw [if_pos (b hx hy)]; omega
      · split at h2 <;> omega
    · split at h1 <;> omega
theorem cmpA_cmp : CMP cmpA where
  zero x y := by
    unfold cmpA
    by_cases hx : numF x = true <;> by_cases hy : numF y = true
    · rw [parseF_yes hx, parseF_yes hy]
      simp only [if_true]
      unfold icmp
      have ex : fmt (valA 0 x) = x := fmt_of_isNum (by unfold numF at hx; simp at hx; exact hx.1)
      have ey : fmt (valA 0 y) = y := fmt_of_isNum (by unfold numF at hy; simp at hy; exact hy.1)
      constructor
      · intro h
        split at h
        · omega
        · split at h
          · rename_i h2; rw [← ex, ← ey, show valA 0 x = valA 0 y by omega]
          · omega
      · rintro rfl; simp
    · rw [parseF_yes hx, parseF_no (by simpa using hy)]
      simp only [if_true]
      refine ⟨fun h => by simp at h, fun h => ?_⟩
      subst h; exact absurd hx hy
    · rw [parseF_no (by simpa using hx), parseF_yes hy]
      simp only [if_true]
      refine ⟨fun h => by simp at h, fun h => ?_⟩
      subst h; exact absurd hy hx
    · rw [parseF_no (by simpa using hx), parseF_no (by simpa using hy)]
      exact scmp_zero
  anti x y := by
    unfold cmpA
    have hs := scmp_cmp.anti x y
    cases hx : (parseF x).2 <;> cases hy : (parseF y).2 <;> simp only [if_true, Bool.false_eq_true, if_false]
    · exact hs
    · omega
    · omega
    · unfold icmp; split <;> split <;> (try split) <;> omega
  trans x y z := by
    unfold cmpA
    have hs := scmp_cmp.trans x y z
    cases hx : (parseF x).2 <;> cases hy : (parseF y).2 <;> cases hz : (parseF z).2 <;> simp only [if_true, Bool.false_eq_true, if_false]
    · exact hs
    all_goals (try (intro h1 h2; omega))
    intro h1 h2
    unfold icmp at *
    split at h1
    · split at h2
      · rw [if_pos (by omega)]; omega
      · split at h2 <;> omega
    · split at h1 <;> omega
theorem cmpArgs_cmp : CMP cmpArgs where
  zero x y := by
    induction x generalizing y with
    | nil => cases y <;> simp [cmpArgs]
    | cons a x ih =>
      cases y with
      | nil => simp [cmpArgs]
      | cons b y =>
        rw [cmpArgs]
        have hz := cmpA_cmp.zero a b
        split
        · rename_i h; exact ⟨fun e => absurd e h, fun e => absurd (hz.2 (List.cons.inj e).1) h⟩
        · rename_i h
          have e : a = b := hz.1 (Decidable.not_not.1 h)
          subst e
          rw [ih]; simp
  anti x y := by
    induction x generalizing y with
    | nil => cases y <;> simp [cmpArgs]
    | cons a x ih =>
      cases y with
      | nil => simp [cmpArgs]
      | cons b y =>
        rw [cmpArgs, cmpArgs]
        have hz := cmpA_cmp.zero a b
        have hz' := cmpA_cmp.zero b a
        have ha := cmpA_cmp.anti a b
        by_cases h : a = b
        · subst h
          rw [if_neg (by simp [hz]), if_neg (by simp [hz])]; exact ih y
        · rw [if_pos (fun e => h (hz.1 e)), if_pos (fun e => h (hz'.1 e).symm)]; exact ha
  trans x y z := by
    induction x generalizing y z with
    | nil =>
      cases y <;> cases z <;> simp [cmpArgs]
    | cons a x ih =>
      cases y with
      | nil => simp [cmpArgs]
      | cons b y =>
        cases z with
        | nil => simp [cmpArgs]
        | cons c z =>
          rw [cmpArgs, cmpArgs, cmpArgs]
          have hz := fun a b => cmpA_cmp.zero a b
          have ht := cmpA_cmp.trans a b c
          by_cases h1 : a = b
          · subst h1
            rw [if_neg (by simp [hz])]
            by_cases h2 : a = c
            · subst h2
              rw [if_neg (by simp [hz]), if_neg (by simp [hz])]; exact ih y z
            · rw [if_pos (fun e => h2 ((hz _ _).1 e)), if_pos (fun e => h2 ((hz _ _).1 e))]; exact fun _ h => h
          · rw [if_pos (fun e => h1 ((hz _ _).1 e))]
            by_cases h2 : b = c
            · subst h2
              rw [if_neg (by simp [hz]), if_pos (fun e => h1 ((hz _ _).1 e))]; exact fun h _ => h
            · rw [if_pos (fun e => h2 ((hz _ _).1 e))]
              intro h3 h4
              have h5 := ht h3 h4
              rw [if_pos (by omega)]; exact h5
theorem cmpF_cmp : CMP cmpF where
  zero x y := by
    unfold cmpF
    split
    · rename_i h; rw [cmpArgs_cmp.zero]; exact ⟨fun e => Prod.ext h e, fun e => by rw [e]⟩
    · rename_i h; exact ⟨fun e => absurd (scmp_zero.1 e) h, fun e => absurd (by rw [e]) h⟩
  anti x y := by
    unfold cmpF
    by_cases h : x.1 = y.1
    · rw [if_pos h, if_pos h.symm]; exact cmpArgs_cmp.anti _ _
    · rw [if_neg h, if_neg (fun e => h e.symm)]; exact scmp_cmp.anti _ _
  trans x y z := by
    unfold cmpF
    by_cases h1 : x.1 = y.1 <;> by_cases h2 : y.1 = z.1
    · rw [if_pos h1, if_pos h2, if_pos (h1.trans h2)]; exact cmpArgs_cmp.trans _ _ _
    · rw [if_pos h1, if_neg h2, if_neg (fun e => h2 (h1.symm.trans e)), h1]; exact fun _ h => h
    · rw [if_neg h1, if_pos h2, if_neg (fun e => h1 (e.trans h2.symm)), h2]; exact fun h _ => h
    · rw [if_neg h1, if_neg h2]
      intro h3 h4
      have h5 := scmp_cmp.trans _ _ _ h3 h4
      have h6 : x.1 ≠ z.1 := fun e => by have := scmp_zero.2 e; omega
      rw [if_neg h6]; exact h5
end Go.Proofs.Ytamcaplpgmloiaa
