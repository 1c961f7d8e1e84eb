/-
  The evaluator always goes on to some value; what a state says of a frame and a world ('Sim').
-/
import Derived.Test.YtamcaplpgmloiaaSound4
namespace Go.Proofs.Ytamcaplpgmloiaa
namespace Abs
variable {mo : Bool}
open Go.RowKit

section ex
variable {gd : Bool} {e : Env} {bx : List ABox}
theorem evG_ex {x : Operand} {k : AV → Prop} (h : evG gd e x k) : ∃ y, k y := unG_ex h
theorem gInt_ex {x : AV} {k : IntKind → Int → Prop} (h : gInt x k) : ∃ kd n, k kd n := by obtain ⟨kd, n, _, h⟩ := gInt_inv h; exact ⟨kd, n, h⟩
theorem gBool_ex {x : AV} {k : Bool → Prop} (h : gBool x k) : ∃ b, k b := by obtain ⟨b, _, h⟩ := gBool_inv h; exact ⟨b, h⟩
theorem gStr_ex {x : AV} {k : Str → Prop} (h : gStr x k) : ∃ b, k b := by obtain ⟨b, _, h⟩ := gStr_inv h; exact ⟨b, h⟩
theorem gList_ex {x : AV} {k : List (List AV) → Prop} (h : gList x k) : ∃ xs, k xs := by
  rcases gList_inv h with ⟨_, xs, _, h⟩ | ⟨_, h⟩
  · exact ⟨xs, h⟩
  · exact ⟨_, h⟩
theorem lenK'_ex {s : Bool} {x : AV} {k : Nat → Prop} (h : lenK' s x k) : ∃ n, k n := by
  cases s with
  | true => obtain ⟨_, _, h⟩ := gStr_inv h; exact ⟨_, h⟩
  | false =>
    simp only [lenK'] at h
    split at h
    · exact ⟨_, h⟩
    · exact ⟨_, h⟩
    · exact ⟨_, h⟩
    · exact h.no
theorem lenK_ex {s : Bool} {x : AV} {k : Nat → Prop} (h : lenK s x k) : ∃ n, k n := by
  cases s
  · obtain ⟨_, h⟩ := gList_ex h; exact ⟨_, h⟩
  · obtain ⟨_, h⟩ := gStr_ex h; exact ⟨_, h⟩
theorem bound_ex {x : Option Operand} {d : Nat} {k : Int → Prop} (h : bound gd e x d k) : ∃ n, k n := by
  unfold bound at h; split at h
  · exact ⟨_, h⟩
  · obtain ⟨_, h⟩ := evG_ex h; obtain ⟨_, _, h⟩ := gInt_ex h; exact ⟨_, h⟩
theorem sliceK_ex {s : Bool} {sz : Nat} {x : AV} {lo hi : Int} {k : AV → Prop} (h : sliceK s gd sz x lo hi k) : ∃ y, k y := by
  cases s
  · obtain ⟨_, h⟩ := gList_ex h; obtain ⟨_, _, h⟩ := h; exact ⟨_, h⟩
  · obtain ⟨_, h⟩ := gStr_ex h; obtain ⟨_, h⟩ := h; exact ⟨_, h⟩
theorem takeAV_ex {ag : Bool} {n : Nat} {cs : List AV} {k : AV → Prop} (h : takeAV ag n cs k) : ∃ y, k y := by
  unfold takeAV at h; split at h
  · obtain ⟨_, h⟩ := h; exact ⟨_, h⟩
  · split at h
    · exact ⟨_, h⟩
    · exact h.no
theorem ptrCells_ex {x : AV} {k : List AV → Prop} (h : ptrCells bx x k) : ∃ y, k y := by
  unfold ptrCells at h; split at h
  · exact ⟨_, h⟩
  · split at h
    · exact ⟨_, h⟩
    · exact h.no
  · exact h.no
theorem fadrK_ex {off : Nat} {x : AV} {k : AV → Prop} (h : fadrK off x k) : ∃ y, k y := by
  unfold fadrK at h; split at h
  · exact ⟨_, h⟩
  · exact ⟨_, h⟩
  · exact h.no
theorem aInt_ex {op : BinOp} {kd : IntKind} {a b : Int} {k : Value → Prop} (h : aInt op kd a b k) : ∃ y, k y := by
  obtain ⟨v, h, _⟩ := int_run (P := default) op 0 kd a b k h; exact ⟨v, h⟩
theorem aStr_ex {op : BinOp} {a b : Str} {k : AV → Prop} (h : aStr op a b k) : ∃ y, k y := by
  obtain ⟨v, _, h, _⟩ := str_run (P := default) op 0 a b k h; exact ⟨v, h⟩
theorem aBin_ex {op : BinOp} {x y : AV} {k : AV → Prop} (h : aBin op x y k) : ∃ y, k y := by
  unfold aBin at h; split at h
  · split at h
    · split at h
      · obtain ⟨_, h⟩ := h; exact ⟨_, h⟩
      · obtain ⟨_, h⟩ := h; exact ⟨_, h⟩
      · obtain ⟨_, h⟩ := h; obtain ⟨_, h⟩ := aInt_ex h; exact ⟨_, h⟩
    · exact h.no
  · split at h
    · exact aStr_ex h
    · exact h.no
  · exact h.no
theorem aBool_ex {op : BinOp} {a b : Bool} {k : Value → Prop} (h : aBool op a b k) : ∃ y, k y := by
  unfold aBool at h; split at h <;> first | exact ⟨_, h⟩ | exact h.no

theorem nilK_ex {ne : Bool} {x : AV} {k : AV → Prop} (h : nilK ne x k) : ∃ y, k y := by
  unfold nilK at h; split at h
  · obtain ⟨h⟩ := h; exact ⟨_, h false (by simp)⟩
  · obtain ⟨h⟩ := h; exact ⟨_, h false (by simp)⟩
  · exact ⟨_, h⟩
  · exact h.no
theorem aVal_ex {op : AOp} {k : AV → Prop} (h : aVal op gd e bx k) : ∃ x, k x := by
  cases op <;> simp only [aVal] at h
  case mv => exact evG_ex h
  case and | or =>
    obtain ⟨_, h⟩ := evG_ex h; obtain ⟨_, h⟩ := gBool_ex h; obtain ⟨_, h⟩ := evG_ex h; obtain ⟨_, h⟩ := gBool_ex h; exact ⟨_, h⟩
  case bin => obtain ⟨_, h⟩ := evG_ex h; obtain ⟨_, h⟩ := evG_ex h; exact aBin_ex h
  case nilq => obtain ⟨_, h⟩ := evG_ex h; exact nilK_ex h
  case binb => obtain ⟨_, h⟩ := evG_ex h; obtain ⟨_, h⟩ := evG_ex h; obtain ⟨_, h⟩ := gBool_ex h; obtain ⟨_, h⟩ := gBool_ex h; obtain ⟨_, h⟩ := aBool_ex h; exact ⟨_, h⟩
  case not => obtain ⟨_, h⟩ := evG_ex h; obtain ⟨_, h⟩ := gBool_ex h; exact ⟨_, h⟩
  case neg => obtain ⟨_, h⟩ := evG_ex h; obtain ⟨_, _, h⟩ := gInt_ex h; exact ⟨_, h⟩
  case conv => obtain ⟨_, h⟩ := evG_ex h; obtain ⟨_, _, h⟩ := gInt_ex h; exact ⟨_, h⟩
  case b2s => obtain ⟨_, h⟩ := evG_ex h; obtain ⟨_, h⟩ := gList_ex h; obtain ⟨_, _, h⟩ := h; exact ⟨_, h⟩
  case load => obtain ⟨_, h⟩ := evG_ex h; obtain ⟨_, h⟩ := ptrCells_ex h; exact takeAV_ex h
  case fadr => obtain ⟨_, h⟩ := evG_ex h; exact fadrK_ex h
  case field =>
    obtain ⟨_, h⟩ := evG_ex h; split at h
    · exact takeAV_ex h
    · exact h.no
  case iadr =>
    obtain ⟨_, h⟩ := evG_ex h; obtain ⟨_, h⟩ := evG_ex h; split at h
    · obtain ⟨_, _, h⟩ := gInt_ex h; obtain ⟨_, h⟩ := h; exact ⟨_, h⟩
    · obtain ⟨_, _, h⟩ := gInt_ex h; obtain ⟨_, _, h⟩ := h; exact ⟨_, h⟩
    · exact h.no
  case index => obtain ⟨_, h⟩ := evG_ex h; obtain ⟨_, h⟩ := evG_ex h; obtain ⟨_, _, h⟩ := gInt_ex h; obtain ⟨_, h⟩ := gStr_ex h; obtain ⟨_, h⟩ := h; exact ⟨_, h⟩
  case slice => obtain ⟨_, h⟩ := evG_ex h; obtain ⟨_, h⟩ := lenK_ex h; obtain ⟨_, h⟩ := bound_ex h; obtain ⟨_, h⟩ := bound_ex h; exact sliceK_ex h
  case extract =>
    obtain ⟨_, h⟩ := evG_ex h; split at h
    · split at h
      · exact ⟨_, h⟩
      · exact h.no
    · exact h.no
  case len => obtain ⟨_, h⟩ := evG_ex h; obtain ⟨_, h⟩ := lenK'_ex h; exact ⟨_, h⟩
  all_goals exact h.no

theorem evs_ex : ∀ {l : List Operand} {k : List AV → Prop}, evs gd e l k → ∃ vs, k vs
  | [], _, h => ⟨[], h⟩
  | _ :: _, _, h => by
    obtain ⟨_, h⟩ := evG_ex h
    obtain ⟨vs, h⟩ := evs_ex h
    exact ⟨_, h⟩

theorem aQuiet_ex {C : Con} {op : AOp} {k : AV → Prop} (h : aQuiet C op gd e bx k) : ∃ x, k x := by
  unfold aQuiet at h; split at h
  · obtain ⟨_, h⟩ := evs_ex h
    obtain ⟨_, _, _, _, _, h⟩ := h
    exact ⟨_, h⟩
  · exact aVal_ex h
end ex

structure G where
  F : Nat → Nat
  tok : List (Option Nat)
  box : List BId

/-- Below block number B the world is as it was; where that is asked (mo), no draw is taken back. -/
structure Bel (mo : Bool) (B : Nat) (w w' : World) : Prop extends Below B w w' where
  drawn : mo = true → w.drawn ≤ w'.drawn
theorem Bel.refl (B : Nat) (w : World) : Bel mo B w w := ⟨Below.refl B w, fun _ => Nat.le_refl _⟩
theorem Bel.trans {B : Nat} {a b c : World} (h : Bel mo B a b) (k : Bel mo B b c) : Bel mo B a c := ⟨h.toBelow.trans k.toBelow, fun m => Nat.le_trans (h.drawn m) (k.drawn m)⟩
theorem Bel.drew {B : Nat} {a w : World} (h : Bel mo B a w) : Bel mo B a w.drew := ⟨h.toBelow.drew, fun m => Nat.le_trans (h.drawn m) (Nat.le_succ _)⟩
theorem Bel.alloc {B : Nat} {a w : World} (h : Bel mo B a w) (hB : B ≤ w.heap.size) (o : Obj) : Bel mo B a (w.alloc o) := ⟨h.toBelow.alloc hB o, fun m => h.drawn m⟩
theorem Bel.less {B B' : Nat} {a w : World} (h : Bel mo B a w) (hB : B' ≤ B) : Bel mo B' a w := ⟨h.toBelow.mono hB, h.drawn⟩

/-- What was there is as it was, but for the blocks that are lent. -/
structure Keep (mo : Bool) (box0 : List BId) (w w' : World) : Prop where
  drawn : mo = true → w.drawn ≤ w'.drawn
  os : w'.os = w.os
  tape : w'.tape = w.tape
  output : w'.output = w.output
  size : w.heap.size ≤ w'.heap.size
  block : ∀ k, k < w.heap.size → (∀ (j c : Nat), box0[j]? ≠ some (.blk k c)) → w'.heap[k]? = w.heap[k]?

theorem Keep.refl (box0 : List BId) (w : World) : Keep mo box0 w w := ⟨fun _ => Nat.le_refl _, rfl, rfl, rfl, Nat.le_refl _, fun _ _ _ => rfl⟩
theorem Keep.trans {box0 : List BId} {w0 w w' : World} (h : Keep mo box0 w0 w) (k : Bel mo w.heap.size w w') : Keep mo box0 w0 w' :=
  ⟨fun m => Nat.le_trans (h.drawn m) (k.drawn m), k.os.trans h.os, k.tape.trans h.tape, k.output.trans h.output, Nat.le_trans h.size k.size, fun i hi hn => (k.block i (Nat.lt_of_lt_of_le hi h.size)).trans (h.block i hi hn)⟩
theorem Keep.below {w0 w : World} (h : Keep mo [] w0 w) : Bel mo w0.heap.size w0 w := ⟨⟨h.os, h.tape, h.output, h.size, fun k hk => h.block k hk (by simp)⟩, h.drawn⟩

def live (bx : List ABox) (j : Nat) : Prop := bx[j]? ≠ some .dead

/-- What a state says of a frame and a world, in a call that began in world w0 with boxes box0 lent (n slots; F0: what of the old memory is read). -/
structure Sim (mo : Bool) (n : Nat) (w0 : World) (F0 : Nat → Nat) (box0 : List BId) (g : G) (s : St) (a : Act) (w : World) : Prop where
  defers : a.defers = []
  size : a.tmps.size = n
  env : EnvOk w0.heap.size w g.F g.tok s.fr g.box s.env a
  below : Keep mo box0 w0 w
  old : ∀ b, b < w0.heap.size → g.F b = F0 b
  out : ∀ b, w.heap.size ≤ b → g.F b = 0
  boxlen : g.box.length = s.bx.length
  boxpre : ∀ (j : Nat) d, box0[j]? = some d → g.box[j]? = some d
  boxin : ∀ (j b c : Nat), g.box[j]? = some (.blk b c) → (w0.heap.size ≤ b ∨ ∃ i : Nat, box0[i]? = some (.blk b c)) ∧ b < w.heap.size
  boxF : ∀ (j b c : Nat), g.box[j]? = some (.blk b c) → live s.bx j → g.F b = 0
  boxrep : BoxesOk w0.heap.size w g.F g.tok s.fr g.box s.bx
  boxinj : ∀ (i j b c c' : Nat), g.box[i]? = some (.blk b c) → g.box[j]? = some (.blk b c') → live s.bx i → live s.bx j → i = j
  toklen : g.tok.length = s.fr.length
  tokin : ∀ (k b : Nat), g.tok[k]? = some (some b) → w0.heap.size ≤ b ∧ b < w.heap.size
  tokbox : ∀ (k b j c : Nat), g.tok[k]? = some (some b) → g.box[j]? = some (.blk b c) → ¬ live s.bx j
  tokinj : ∀ (k l b : Nat), g.tok[k]? = some (some b) → g.tok[l]? = some (some b) → k = l

theorem BoxOk.later {B : Nat} {w w' : World} {F F' : Nat → Nat} {tok tok' : List (Option Nat)} {fr fr' : Fr} {box box' : List BId} (L : Later w F tok fr w' F' tok' fr') (hx : ∀ (j : Nat) d, box[j]? = some d → box'[j]? = some d)
    {d : BId} {x : ABox} (hb : ∀ b c, d = .blk b c → x ≠ .dead → w'.heap[b]? = w.heap[b]?) (h : BoxOk B w F tok fr box d x) : BoxOk B w' F' tok' fr' box' d x := by
  cases d with
  | blk b c =>
    cases x with
    | cells k cs =>
      obtain ⟨c, t, h1, h2, h3, h4⟩ := h
      exact ⟨c, t, by rw [hb b _ rfl (by simp)]; exact h1, h2, fun i x hx' => ⟨(h3 i x hx').1.later L hx, (h3 i x hx').2⟩, h4⟩
    | iter s p => exact (hb b _ rfl (by simp)).trans h
    | dead => exact trivial
  | nil =>
    cases x with
    | cells k cs => exact h
    | iter s p => exact h
    | dead => exact trivial

theorem BoxesOk.later {B : Nat} {w w' : World} {F F' : Nat → Nat} {tok tok' : List (Option Nat)} {fr fr' : Fr} {box : List BId} {bx : List ABox} (L : Later w F tok fr w' F' tok' fr')
    (hb : ∀ (j b c : Nat), box[j]? = some (.blk b c) → live bx j → w'.heap[b]? = w.heap[b]?) (h : BoxesOk B w F tok fr box bx) : BoxesOk B w' F' tok' fr' box bx :=
  fun j d x hd hx => (h j d x hd hx).later L (fun _ _ h => h) (fun b c he hne => hb j b c (he ▸ hd) (fun h => hne (by rw [hx] at h; exact Option.some.inj h)))

theorem EnvOk.later {B : Nat} {w w' : World} {F F' : Nat → Nat} {tok tok' : List (Option Nat)} {fr fr' : Fr} {box box' : List BId} (L : Later w F tok fr w' F' tok' fr')
    (hb : ∀ (j : Nat) d, box[j]? = some d → box'[j]? = some d) {e : Env} {a : Act} (h : EnvOk B w F tok fr box e a) : EnvOk B w' F' tok' fr' box' e a :=
  fun i => (h i).later L hb

theorem look_put (e : Env) (d : Option Nat) (x : AV) (i : Nat) : look (put e d x) i = if some i = d then x else look e i := by
  cases d with
  | none => simp [put]
  | some d => simp only [put, look, Option.some.injEq]

theorem EnvOk.put {B : Nat} {w : World} {F : Nat → Nat} {tok : List (Option Nat)} {fr : Fr} {box : List BId} {e : Env} {a : Act} (h : EnvOk B w F tok fr box e a)
    {d : Option Nat} (hd : ∀ i, d = some i → i < a.tmps.size) {x : AV} {v : Value} (hx : RepT B w F tok fr box x v) : EnvOk B w F tok fr box (put e d x) (a.put d v) := by
  intro i
  rw [look_put]
  cases d with
  | none => simpa [Act.put] using h i
  | some d =>
    have hd' := hd d rfl
    by_cases hi : i = d
    · subst hi; simpa [Act.put, Array.getD, hd'] using hx
    · have hi' : ¬ d = i := fun h => hi h.symm
      have := h i
      simp only [Option.some.injEq, hi, if_false, Act.put]
      rw [show (a.tmps.setIfInBounds d v).getD i undef = a.tmps.getD i undef by simp [Array.getD_eq_getD_getElem?, hi']]
      exact this

theorem Sim.put {n : Nat} {w0 : World} {F0 : Nat → Nat} {box0 : List BId} {g : G} {e : Env} {bx : List ABox} {fr : Fr} {a : Act} {w : World} (h : Sim mo n w0 F0 box0 g ⟨e, bx, fr⟩ a w)
    {d : Option Nat} (hd : ∀ i, d = some i → i < n) {x : AV} {v : Value} (hx : RepT w0.heap.size w g.F g.tok fr g.box x v) : Sim mo n w0 F0 box0 g ⟨put e d x, bx, fr⟩ (a.put d v) w :=
  { h with
    defers := by cases d <;> exact h.defers
    size := by cases d <;> simp [Act.put, h.size]
    env := EnvOk.put h.env (by rw [h.size]; exact hd) hx }

/-- Nothing that the state speaks of has turned. -/
theorem later_below {n : Nat} {w0 : World} {F0 : Nat → Nat} {box0 : List BId} {g : G} {s : St} {a : Act} {w w' : World} (h : Sim mo n w0 F0 box0 g s a w) (hw : Bel mo w.heap.size w w') :
    Later w g.F g.tok s.fr w' g.F g.tok s.fr := by
  refine ⟨fun b i hi => ?_, fun _ => Nat.le_refl _, fun k t sz n hk => ⟨n, hk, Nat.le_refl _, fun _ => ⟨rfl, fun b hb => ⟨?_, rfl⟩⟩⟩⟩
  · have : b < w.heap.size := by
      rcases Nat.lt_or_ge b w.heap.size with h1 | h1
      · exact h1
      · rw [h.out b h1] at hi; omega
    exact hw.cell this
  · exact hw.block b (h.tokin k b hb).2

theorem Sim.world {n : Nat} {w0 : World} {F0 : Nat → Nat} {box0 : List BId} {g : G} {s : St} {a : Act} {w w' : World} (h : Sim mo n w0 F0 box0 g s a w) (hw : Bel mo w.heap.size w w') : Sim mo n w0 F0 box0 g s a w' := by
  have L := later_below h hw
  exact { h with
    env := h.env.later L (fun _ _ h => h)
    below := h.below.trans hw
    out := fun b hb => h.out b (Nat.le_trans hw.size hb)
    boxin := fun j b c hb => ⟨(h.boxin j b c hb).1, Nat.lt_of_lt_of_le (h.boxin j b c hb).2 hw.size⟩
    boxrep := h.boxrep.later L (fun j b c hb _ => hw.block b (h.boxin j b c hb).2)
    tokin := fun k b hb => ⟨(h.tokin k b hb).1, Nat.lt_of_lt_of_le (h.tokin k b hb).2 hw.size⟩ }
end Abs
end Go.Proofs.Ytamcaplpgmloiaa
