/-
  Calls of Go's library that turn one row that is lent to them.
-/
import Derived.Test.YtamcaplpgmloiaaLib
import Derived.Sort.Row
import Derived.Sort.Grow
namespace Go.Proofs.Ytamcaplpgmloiaa
namespace Abs
variable {mo : Bool}
open Go.RowKit Go.Sort

theorem heap_putRow {α : Type} [Inhabited α] (enc : α → Value) (w : World) (blk off : Nat) (d : Array α) (c : Array Value) (t : TypeId) (z : Nat × Nat) (h : w.heap[blk]? = some (.cells c t z)) :
    (putRow enc w blk off d).heap[blk]? = some (.cells (putCells enc off d c) t z) := by
  simp [putRow, mapBlock, Array.getElem?_modify, h, onCells]
theorem heap_putRow_other {α : Type} [Inhabited α] (enc : α → Value) (w : World) (blk off : Nat) (d : Array α) (k : Nat) (h : k ≠ blk) : (putRow enc w blk off d).heap[k]? = w.heap[k]? := by
  simp [putRow, mapBlock, Array.getElem?_modify, Ne.symm h]
theorem heap_grow (w : World) (os : Array Obj) (k : Nat) (h : k < w.heap.size) : (grow w os).heap[k]? = w.heap[k]? := by
  simp [grow, Array.getElem?_append, h]

/-- a row that is lent has been turned; nothing else has -/
theorem gpost_row {w w' : World} {F : Nat → Nat} {box0 : List BId} {b0 : List ABox} {Φ : AV → List ABox → Prop} (hout : ∀ b, w.heap.size ≤ b → F b = 0) (hbl : box0.length = b0.length)
    (hbi : ∀ (j b c : Nat), box0[j]? = some (.blk b c) → b < w.heap.size ∧ (live b0 j → F b = 0))
    (hbj : ∀ (i j b c c' : Nat), box0[i]? = some (.blk b c) → box0[j]? = some (.blk b c') → live b0 i → live b0 j → i = j)
    (hB : BoxesOk w.heap.size w F [] [] box0 b0) {j blk cap : Nat} {k : RK} {cs cs' : List AV} (hj : box0[j]? = some (.blk blk cap)) (hl : b0[j]? = some (.cells k cs))
    (hdr : w.drawn ≤ w'.drawn) (hos : w'.os = w.os) (htape : w'.tape = w.tape) (hou : w'.output = w.output) (hsz : w.heap.size ≤ w'.heap.size) (hk : ∀ k, k < w.heap.size → k ≠ blk → w'.heap[k]? = w.heap[k]?)
    (hx : (∀ y v, Rep w.heap.size w F [] [] box0 y v → Rep w.heap.size w' F [] [] box0 y v) → BoxOk w.heap.size w' F [] [] box0 (.blk blk cap) (.cells k cs'))
    {e : Ending} {v : Value} {r : AV} (hv : e = .returned v) (hr : Rep w.heap.size w' F [] [] box0 r v) (hΦ : Φ r (b0.set j (.cells k cs'))) :
    ∃ (v : Value) (F' : Nat → Nat) (box1 : List BId) (r : AV) (b1 : List ABox), Φ r b1 ∧ e = .returned v ∧ Keep mo (mask b0 box0) w w' ∧ (∀ b, b < w.heap.size → F' b = F b) ∧ (∀ b, w'.heap.size ≤ b → F' b = 0) ∧
      (∀ (j : Nat) d, box0[j]? = some d → box1[j]? = some d) ∧ box1.length = b1.length ∧
      (∀ (j b c : Nat), box0.length ≤ j → box1[j]? = some (.blk b c) → (w.heap.size ≤ b ∨ ∃ i : Nat, live b0 i ∧ box0[i]? = some (.blk b c)) ∧ b < w'.heap.size) ∧
      (∀ (j b c : Nat), box1[j]? = some (.blk b c) → live b1 j → (box0.length ≤ j ∨ live b0 j) → F' b = 0) ∧
      (∀ (i j b c c' : Nat), box1[i]? = some (.blk b c) → box1[j]? = some (.blk b c') → live b1 i → live b1 j → (box0.length ≤ i ∨ live b0 i) → (box0.length ≤ j ∨ live b0 j) → i = j) ∧
      (∀ (j : Nat) d x, box1[j]? = some d → b1[j]? = some x → (box0.length ≤ j ∨ live b0 j) → BoxOk w.heap.size w' F' [] [] box1 d x) ∧ Rep w.heap.size w' F' [] [] box1 r v := by
  have hlive : live b0 j := fun h => by rw [hl] at h; cases h
  have hF0 := (hbi j blk cap hj).2 hlive
  have hjl := getElem?_lt hl
  have L : Later w F [] [] w' F [] [] := by
    refine ⟨fun b i hi => World.cell?_of_block (w := w) (hk b ?_ (fun h => by rw [h, hF0] at hi; omega)), fun _ => Nat.le_refl _, fun k t s n h => by simp at h⟩
    rcases Nat.lt_or_ge b w.heap.size with h | h
    · exact h
    · rw [hout b h] at hi; omega
  have ld : ∀ {i : Nat}, live (b0.set j (.cells k cs')) i ↔ live b0 i := live_set (by simp) hlive
  refine ⟨v, F, box0, r, _, hΦ, hv, ⟨fun _ => hdr, hos, htape, hou, hsz, fun q hq hn => hk q hq (fun h => ?_)⟩, fun _ _ => rfl, fun b hb => hout b (Nat.le_trans hsz hb), fun _ _ h => h, by simpa using hbl,
    fun i b c hi h => (by have := getElem?_lt h; omega), fun i b c hi hli _ => (hbi i b c hi).2 (ld.1 hli), fun i i' b c c' h1 h2 l1 l2 _ _ => hbj i i' b c c' h1 h2 (ld.1 l1) (ld.1 l2), fun i d x hd hx' hin => ?_, hr⟩
  · subst h
    refine hn j cap ?_
    clear hx hΦ hv hr ld L
    induction b0 generalizing box0 j with
    | nil => simp at hl
    | cons x b ih =>
      cases box0 with
      | nil => simp at hj
      | cons d box =>
        cases j with
        | zero =>
          simp at hl hj
          subst hl; subst hj
          simp [mask]
        | succ j =>
          have h1 : b[j]? = some (.cells k cs) := by simpa using hl
          have h2 : box[j]? = some (.blk q cap) := by simpa using hj
          have aux : ∀ (b : List ABox) (box : List BId) (j : Nat), b[j]? = some (.cells k cs) → box[j]? = some (.blk q cap) → (mask b box)[j]? = some (.blk q cap) := by
            intro b
            induction b with
            | nil => intro box j h; simp at h
            | cons x b ih =>
              intro box j h1 h2
              cases box with
              | nil => simp at h2
              | cons d box =>
                cases j with
                | zero => simp at h1 h2; subst h1; subst h2; simp [mask]
                | succ j => cases x <;> simpa [mask] using ih box j (by simpa using h1) (by simpa using h2)
          cases x <;> simpa [mask] using aux b box j h1 h2
  · rw [List.getElem?_set] at hx'
    by_cases hij : j = i
    · subst hij
      rw [if_pos rfl, if_pos hjl] at hx'
      rw [hj] at hd
      cases hx'; cases hd
      exact hx (fun y v h => h.later L (fun _ _ h => h))
    · rw [if_neg hij] at hx'
      refine (hB i d x hd hx').later L (fun _ _ h => h) (fun b c he hnd => ?_)
      subst he
      refine hk b (hbi i b c hd).1 (fun h => ?_)
      subst h
      exact hij (hbj j i b cap c hj hd hlive (fun h => hnd (by rw [hx'] at h; exact Option.some.inj h)))

/-- nothing has been turned -/
theorem gpost_same {w : World} {F : Nat → Nat} {box0 : List BId} {b0 : List ABox} {Φ : AV → List ABox → Prop} (hout : ∀ b, w.heap.size ≤ b → F b = 0) (hbl : box0.length = b0.length)
    (hbi : ∀ (j b c : Nat), box0[j]? = some (.blk b c) → b < w.heap.size ∧ (live b0 j → F b = 0))
    (hbj : ∀ (i j b c c' : Nat), box0[i]? = some (.blk b c) → box0[j]? = some (.blk b c') → live b0 i → live b0 j → i = j)
    (hB : BoxesOk w.heap.size w F [] [] box0 b0) {e : Ending} {v : Value} {r : AV} (hv : e = .returned v) (hr : Rep w.heap.size w F [] [] box0 r v) (hΦ : Φ r b0) :
    ∃ (v : Value) (F' : Nat → Nat) (box1 : List BId) (r : AV) (b1 : List ABox), Φ r b1 ∧ e = .returned v ∧ Keep mo (mask b0 box0) w w ∧ (∀ b, b < w.heap.size → F' b = F b) ∧ (∀ b, w.heap.size ≤ b → F' b = 0) ∧
      (∀ (j : Nat) d, box0[j]? = some d → box1[j]? = some d) ∧ box1.length = b1.length ∧
      (∀ (j b c : Nat), box0.length ≤ j → box1[j]? = some (.blk b c) → (w.heap.size ≤ b ∨ ∃ i : Nat, live b0 i ∧ box0[i]? = some (.blk b c)) ∧ b < w.heap.size) ∧
      (∀ (j b c : Nat), box1[j]? = some (.blk b c) → live b1 j → (box0.length ≤ j ∨ live b0 j) → F' b = 0) ∧
      (∀ (i j b c c' : Nat), box1[i]? = some (.blk b c) → box1[j]? = some (.blk b c') → live b1 i → live b1 j → (box0.length ≤ i ∨ live b0 i) → (box0.length ≤ j ∨ live b0 j) → i = j) ∧
      (∀ (j : Nat) d x, box1[j]? = some d → b1[j]? = some x → (box0.length ≤ j ∨ live b0 j) → BoxOk w.heap.size w F' [] [] box1 d x) ∧ Rep w.heap.size w F' [] [] box1 r v :=
  ⟨v, F, box0, r, b0, hΦ, hv, Keep.refl _ _, fun _ _ => rfl, hout, fun _ _ h => h, hbl, fun i b c hi h => (by have := getElem?_lt h; omega), fun i b c hi hl _ => (hbi i b c hi).2 hl,
    fun i j b c c' h1 h2 l1 l2 _ _ => hbj i j b c c' h1 h2 l1 l2, fun i d x hd hx _ => hB i d x hd hx, hr⟩

theorem putCells_zero {α : Type} [Inhabited α] (enc : α → Value) (d : Array α) (c : Array Value) (h : d.size ≤ c.size) : (putCells enc 0 d c).toList = d.toList.map enc ++ c.toList.drop d.size := by
  apply List.ext_getElem?
  intro i
  rw [Array.getElem?_toList, putCells, Array.getElem?_mapIdx, List.getElem?_append, List.length_map, Array.length_toList]
  by_cases hi : i < d.size
  · have hc : i < c.size := by omega
    simp [hi, hc, getElem!_pos d i hi]
  · rw [if_neg hi, List.getElem?_drop, show d.size + (i - d.size) = i by omega, Array.getElem?_toList]
    cases c[i]? with
    | none => rfl
    | some x => simp [hi]
theorem set_self {α : Type} {l : List α} {j : Nat} {x : α} (h : l[j]? = some x) : l.set j x = l := by
  apply List.ext_getElem?
  intro i
  rw [List.getElem?_set]
  split
  · rename_i hij; subst hij; rw [if_pos (getElem?_lt h), h]
  · rfl

/-- a row of texts -/
theorem texts_of_box {B : Nat} {w : World} {F : Nat → Nat} {box : List BId} {b cap t : Nat} {ss : List Str} (h : BoxOk B w F [] [] box (.blk b cap) (.cells (.row t 1) (ss.map .str))) :
    ∃ c : Array Value, w.heap[b]? = some (.cells c t (0, 0)) ∧ ss.length ≤ c.size ∧ (∀ (i : Nat) s, ss[i]? = some s → c[i]? = some (mkS s)) ∧ c.size = cap ∧ cap ≤ maxLen := by
  obtain ⟨c, t', hh, hle, hr, rfl, hcs, hcm⟩ := h
  rw [List.length_map] at hle
  refine ⟨c, hh, hle, fun i s hi => ?_, by omega, hcm⟩
  have hlt := getElem?_lt hi
  have hx := (hr i (.str s) (by rw [List.getElem?_map, hi]; rfl)).1
  have hc : c[i]? = some (c.getD i undef) := by simp [Array.getD, show i < c.size by omega]
  rw [hc]
  generalize c.getD i undef = u at hx
  cases hx; rfl
theorem texts_both {B : Nat} {w : World} {F : Nat → Nat} {box : List BId} (ss : List Str) : Both (Rep B w F [] [] box) (ss.map .str) (ss.map mkS) := by
  refine ⟨by simp, fun i x y hx hy => ?_⟩
  rw [List.getElem?_map] at hx hy
  cases hi : ss[i]? with
  | none => rw [hi] at hx; cases hx
  | some s => rw [hi] at hx hy; cases hx; cases hy; exact .str s
end Abs
end Go.Proofs.Ytamcaplpgmloiaa
