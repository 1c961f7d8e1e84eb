/-
  Data as trees; trees as abstract values, as boxes, and as what a call owns in a world.
-/
import Derived.Test.YtamcaplpgmloiaaRep
namespace Go.Proofs.Ytamcaplpgmloiaa
namespace Abs
open Go.RowKit

/-- a number and the like, a text, a slice (element type, cells of an element; each element's cells), a struct's cells, several results -/
inductive Tr where
  | v (x : Value)
  | s (x : Str)
  | l (t sz : Nat) (xs : List (List Tr))
  | a (fs : List Tr)
  | p (fs : List Tr)

mutual
def old : Tr → AV
  | .v x => .val x
  | .s x => .str x
  | .l _ _ xs => .list none (oldLL xs)
  | .a fs => .agg (oldL fs)
  | .p fs => .tup (oldL fs)
def oldL : List Tr → List AV
  | [] => []
  | x :: xs => old x :: oldL xs
def oldLL : List (List Tr) → List (List AV)
  | [] => []
  | x :: xs => oldL x :: oldLL xs
end
theorem oldL_eq : ∀ xs, oldL xs = xs.map old
  | [] => rfl
  | x :: xs => by rw [oldL, oldL_eq xs]; rfl
theorem oldLL_eq : ∀ xs, oldLL xs = xs.map fun e => e.map old
  | [] => rfl
  | x :: xs => by rw [oldLL, oldLL_eq xs, oldL_eq]; rfl

/-! each element of a slice has its number of cells -/
mutual
def okT : Tr → Bool
  | .v _ => true
  | .s _ => true
  | .l _ sz xs => xs.all (fun e => e.length == sz) && okTLL xs
  | .a fs => okTL fs
  | .p fs => okTL fs
def okTL : List Tr → Bool
  | [] => true
  | x :: xs => okT x && okTL xs
def okTLL : List (List Tr) → Bool
  | [] => true
  | x :: xs => okTL x && okTLL xs
end

/-! how many boxes, what stands for the tree, and the boxes, from box n on -/
mutual
def nb : Tr → Nat
  | .v _ => 0
  | .s _ => 0
  | .l _ _ xs => nbLL xs + 1
  | .a fs => nbL fs
  | .p fs => nbL fs
def nbL : List Tr → Nat
  | [] => 0
  | x :: xs => nb x + nbL xs
def nbLL : List (List Tr) → Nat
  | [] => 0
  | x :: xs => nbL x + nbLL xs
end
mutual
def gv : Tr → Nat → AV
  | .v x, _ => .val x
  | .s x, _ => .str x
  | .l _ _ xs, n => .bsl n xs.length
  | .a fs, n => .agg (gvL fs n)
  | .p fs, n => .tup (gvL fs n)
def gvL : List Tr → Nat → List AV
  | [], _ => []
  | x :: xs, n => gv x n :: gvL xs (n + nb x)
end
def gvLL : List (List Tr) → Nat → List AV
  | [], _ => []
  | x :: xs, n => gvL x n ++ gvLL xs (n + nbL x)
mutual
def gb : Tr → Nat → List ABox
  | .v _, _ => []
  | .s _, _ => []
  | .l t sz xs, n => .cells (.row t sz) (gvLL xs (n + 1)) :: gbLL xs (n + 1)
  | .a fs, n => gbL fs n
  | .p fs, n => gbL fs n
def gbL : List Tr → Nat → List ABox
  | [], _ => []
  | x :: xs, n => gb x n ++ gbL xs (n + nb x)
def gbLL : List (List Tr) → Nat → List ABox
  | [], _ => []
  | x :: xs, n => gbL x n ++ gbLL xs (n + nbL x)
end
mutual
theorem length_gb : ∀ (x : Tr) (n : Nat), (gb x n).length = nb x
  | .v _, _ => rfl
  | .s _, _ => rfl
  | .l _ _ xs, n => by simp only [gb, nb, List.length_cons, length_gbLL xs]
  | .a fs, n => by simp only [gb, nb, length_gbL fs]
  | .p fs, n => by simp only [gb, nb, length_gbL fs]
theorem length_gbL : ∀ (x : List Tr) (n : Nat), (gbL x n).length = nbL x
  | [], _ => rfl
  | x :: xs, n => by simp only [gbL, nbL, List.length_append, length_gb x, length_gbL xs]
theorem length_gbLL : ∀ (x : List (List Tr)) (n : Nat), (gbLL x n).length = nbLL x
  | [], _ => rfl
  | x :: xs, n => by simp only [gbLL, nbLL, List.length_append, length_gbL x, length_gbLL xs]
end
theorem nbL_append : ∀ xs ys, nbL (xs ++ ys) = nbL xs + nbL ys
  | [], ys => by simp [nbL]
  | x :: xs, ys => by simp only [List.cons_append, nbL, nbL_append xs]; omega
theorem nbLL_flatten : ∀ xs, nbLL xs = nbL xs.flatten
  | [] => rfl
  | x :: xs => by simp only [nbLL, List.flatten_cons, nbL_append, nbLL_flatten xs]
theorem gvL_append : ∀ xs ys n, gvL (xs ++ ys) n = gvL xs n ++ gvL ys (n + nbL xs)
  | [], ys, n => by simp [nbL, gvL]
  | x :: xs, ys, n => by simp only [List.cons_append, gvL, nbL, gvL_append xs, Nat.add_assoc]
theorem gvLL_flatten : ∀ xs n, gvLL xs n = gvL xs.flatten n
  | [], _ => rfl
  | x :: xs, n => by simp only [gvLL, List.flatten_cons, gvL_append, gvLL_flatten xs]
theorem gbL_append : ∀ xs ys n, gbL (xs ++ ys) n = gbL xs n ++ gbL ys (n + nbL xs)
  | [], ys, n => by simp [nbL, gbL]
  | x :: xs, ys, n => by simp only [List.cons_append, gbL, nbL, gbL_append xs, Nat.add_assoc, List.append_assoc]
theorem gbLL_flatten : ∀ xs n, gbLL xs n = gbL xs.flatten n
  | [], _ => rfl
  | x :: xs, n => by simp only [gbLL, List.flatten_cons, gbL_append, gbLL_flatten xs]
theorem length_gvL : ∀ xs n, (gvL xs n).length = xs.length
  | [], _ => rfl
  | x :: xs, n => by simp [gvL, length_gvL xs]

/-- a value without memory of its own -/
def plainV : Value → Bool
  | .bool _ => true
  | .int _ _ => true
  | .string _ => true
  | _ => false

/-- The value is the tree, in blocks of its own. -/
inductive OwnL (w : World) : List Tr → List Value → List Nat → Prop
  | nil : OwnL w [] [] []
  | v (x : Value) (hp : plainV x = true) {xs : List Tr} {vs : List Value} {ds : List Nat} (h : OwnL w xs vs ds) : OwnL w (.v x :: xs) (x :: vs) ds
  | s (x : Str) {xs : List Tr} {vs : List Value} {ds : List Nat} (h : OwnL w xs vs ds) : OwnL w (.s x :: xs) (mkS x :: vs) ds
  | none (t sz : Nat) {xs : List Tr} {vs : List Value} {ds : List Nat} (h : OwnL w xs vs ds) : OwnL w (.l t sz [] :: xs) (.slice none 0 0 :: vs) ds
  | l (t sz : Nat) (es : List (List Tr)) (b cap : Nat) (c : Array Value) (us : List Value) (hb : w.heap[b]? = some (.cells c t (0, 0))) (hc : c.size = cap * sz) (hl : es.length ≤ cap) (hm : cap ≤ maxLen)
      (hs : ∀ e ∈ es, e.length = sz) (hu : c.toList.take (es.length * sz) = us) (h1 : ∀ u ∈ us, u.oneCell' = true) {d1 : List Nat} (he : OwnL w es.flatten us d1)
      {xs : List Tr} {vs : List Value} {ds : List Nat} (h : OwnL w xs vs ds) : OwnL w (.l t sz es :: xs) (.slice (some ⟨b, 0, Option.none⟩) es.length cap :: vs) (b :: d1 ++ ds)
  | a (fs : List Tr) (us : Array Value) (h1 : ∀ u ∈ us.toList, u.oneCell' = true) {d1 : List Nat} (he : OwnL w fs us.toList d1)
      {xs : List Tr} {vs : List Value} {ds : List Nat} (h : OwnL w xs vs ds) : OwnL w (.a fs :: xs) (.agg us :: vs) (d1 ++ ds)
  | p (fs : List Tr) (us : Array Value) {d1 : List Nat} (he : OwnL w fs us.toList d1)
      {xs : List Tr} {vs : List Value} {ds : List Nat} (h : OwnL w xs vs ds) : OwnL w (.p fs :: xs) (.tuple us :: vs) (d1 ++ ds)

theorem OwnL.length {w : World} {xs : List Tr} {vs : List Value} {ds : List Nat} (h : OwnL w xs vs ds) : xs.length = vs.length := by
  induction h <;> simp_all

theorem OwnL.world {w w' : World} {xs : List Tr} {vs : List Value} {ds : List Nat} (h : OwnL w xs vs ds) (hw : ∀ d ∈ ds, w'.heap[d]? = w.heap[d]?) : OwnL w' xs vs ds := by
  induction h with
  | nil => exact .nil
  | v x hp _ ih => exact .v x hp (ih hw)
  | s x _ ih => exact .s x (ih hw)
  | none t sz _ ih => exact .none t sz (ih hw)
  | l t sz es b cap c us hb hc hl hm hs hu h1 _ _ ih1 ih2 =>
    exact .l t sz es b cap c us (by rw [hw b (by simp)]; exact hb) hc hl hm hs hu h1 (ih1 fun d hd => hw d (by simp [hd])) (ih2 fun d hd => hw d (by simp [hd]))
  | a fs us h1 _ _ ih1 ih2 => exact .a fs us h1 (ih1 fun d hd => hw d (by simp [hd])) (ih2 fun d hd => hw d (by simp [hd]))
  | p fs us _ _ ih1 ih2 => exact .p fs us (ih1 fun d hd => hw d (by simp [hd])) (ih2 fun d hd => hw d (by simp [hd]))

/-! what is known of a box -/
def BoxOk (B : Nat) (w : World) (F : Nat → Nat) (tok : List (Option Nat)) (fr : Fr) (box : List BId) : BId → ABox → Prop
  | .blk b cap, .cells k cs => ∃ (c : Array Value) (t : TypeId), w.heap[b]? = some (.cells c t (0, 0)) ∧ cs.length ≤ c.size ∧
      (∀ i x, cs[i]? = some x → Rep B w F tok fr box x (c.getD i undef) ∧ (c.getD i undef).oneCell' = true) ∧
      (match k with | .var => True | .row t' sz => t = t' ∧ c.size = cap * sz ∧ cap ≤ maxLen)
  | .blk b _, .iter s pos => w.heap[b]? = some (.stringIter ⟨s.toArray⟩ pos)
  | .nil, .cells _ cs => cs = []
  | _, .dead => True
  | .nil, .iter _ _ => False

def BoxesOk (B : Nat) (w : World) (F : Nat → Nat) (tok : List (Option Nat)) (fr : Fr) (box : List BId) (bx : List ABox) : Prop :=
  ∀ (j : Nat) d x, box[j]? = some d → bx[j]? = some x → BoxOk B w F tok fr box d x

def bidIn (ds : List Nat) : BId → Prop
  | .blk b _ => b ∈ ds
  | .nil => True

theorem getD_take {c : Array Value} {us : List Value} {m i : Nat} (hu : c.toList.take m = us) (hi : i < us.length) : us[i]? = some (c.getD i undef) ∧ i < c.size := by
  subst hu
  have h2 : i < c.size := by simp at hi; omega
  have h3 : i < m := by simp at hi; omega
  exact ⟨by rw [List.getElem?_take, if_pos h3]; simp [Array.getD, h2], h2⟩

/-- The tree as boxes. -/
theorem OwnL.boxes {w : World} (B : Nat) (F : Nat → Nat) (tok : List (Option Nat)) (fr : Fr) {xs : List Tr} {vs : List Value} {ds : List Nat} (h : OwnL w xs vs ds) :
    ∃ ids : List BId, ids.length = nbL xs ∧ (∀ (i b c : Nat), ids[i]? = some (.blk b c) → b ∈ ds) ∧ (ds.Nodup → ∀ (i j b c c' : Nat), ids[i]? = some (.blk b c) → ids[j]? = some (.blk b c') → i = j) ∧
      ∀ (n : Nat) (box : List BId), (∀ (i : Nat) d, ids[i]? = some d → box[n + i]? = some d) →
        (∀ (i : Nat) x v, (gvL xs n)[i]? = some x → vs[i]? = some v → Rep B w F tok fr box x v) ∧
        (∀ (i : Nat) d x, ids[i]? = some d → (gbL xs n)[i]? = some x → BoxOk B w F tok fr box d x) := by
  -- one more member: its own boxes, then the others'
  have step : ∀ {x : Tr} {v : Value} {xs : List Tr} {vs : List Value} {d1 ds : List Nat} (ids1 : List BId), ids1.length = nb x → (∀ (i b c : Nat), ids1[i]? = some (.blk b c) → b ∈ d1) →
      (d1.Nodup → ∀ (i j b c c' : Nat), ids1[i]? = some (.blk b c) → ids1[j]? = some (.blk b c') → i = j) →
      (∀ (n : Nat) (box : List BId), (∀ (i : Nat) d, ids1[i]? = some d → box[n + i]? = some d) → Rep B w F tok fr box (gv x n) v ∧ (∀ (i : Nat) d y, ids1[i]? = some d → (gb x n)[i]? = some y → BoxOk B w F tok fr box d y)) →
      (∃ ids : List BId, ids.length = nbL xs ∧ (∀ (i b c : Nat), ids[i]? = some (.blk b c) → b ∈ ds) ∧ (ds.Nodup → ∀ (i j b c c' : Nat), ids[i]? = some (.blk b c) → ids[j]? = some (.blk b c') → i = j) ∧
        ∀ (n : Nat) (box : List BId), (∀ (i : Nat) d, ids[i]? = some d → box[n + i]? = some d) →
          (∀ (i : Nat) x v, (gvL xs n)[i]? = some x → vs[i]? = some v → Rep B w F tok fr box x v) ∧
          (∀ (i : Nat) d x, ids[i]? = some d → (gbL xs n)[i]? = some x → BoxOk B w F tok fr box d x)) →
      ∃ ids : List BId, ids.length = nbL (x :: xs) ∧ (∀ (i b c : Nat), ids[i]? = some (.blk b c) → b ∈ d1 ++ ds) ∧ ((d1 ++ ds).Nodup → ∀ (i j b c c' : Nat), ids[i]? = some (.blk b c) → ids[j]? = some (.blk b c') → i = j) ∧
        ∀ (n : Nat) (box : List BId), (∀ (i : Nat) d, ids[i]? = some d → box[n + i]? = some d) →
          (∀ (i : Nat) y u, (gvL (x :: xs) n)[i]? = some y → (v :: vs)[i]? = some u → Rep B w F tok fr box y u) ∧
          (∀ (i : Nat) d y, ids[i]? = some d → (gbL (x :: xs) n)[i]? = some y → BoxOk B w F tok fr box d y) := by
    intro x v xs vs d1 ds ids1 hl1 hd1 hj1 hr1 ⟨ids2, hl2, hd2, hj2, hr2⟩
    refine ⟨ids1 ++ ids2, by simp [nbL, hl1, hl2], fun i b c hi => ?_, fun hnd i j b c c' hi hj => ?_, fun n box hbox => ?_⟩
    · rw [List.getElem?_append] at hi
      split at hi
      · exact List.mem_append_left _ (hd1 _ _ _ hi)
      · exact List.mem_append_right _ (hd2 _ _ _ hi)
    · obtain ⟨n1, n2, n3⟩ := List.nodup_append.1 hnd
      rw [List.getElem?_append] at hi hj
      split at hi <;> split at hj
      · exact hj1 n1 _ _ _ _ _ hi hj
      · exact absurd rfl (n3 b (hd1 _ _ _ hi) b (hd2 _ _ _ hj))
      · exact absurd rfl (n3 b (hd1 _ _ _ hj) b (hd2 _ _ _ hi))
      · have := hj2 n2 _ _ _ _ _ hi hj; omega
    · obtain ⟨r1, r2⟩ := hr1 n box (fun i d hi => hbox i d (by rw [List.getElem?_append_left (getElem?_lt hi)]; exact hi))
      obtain ⟨r3, r4⟩ := hr2 (n + nb x) box (fun i d hi => by
        have := hbox (ids1.length + i) d (by rw [List.getElem?_append_right (by omega), Nat.add_sub_cancel_left]; exact hi)
        rw [hl1, ← Nat.add_assoc] at this; exact this)
      refine ⟨fun i y u hy hu => ?_, fun i d y hi hy => ?_⟩
      · cases i with
        | zero => simp [gvL] at hy hu; subst hy; subst hu; exact r1
        | succ i => exact r3 i y u (by simpa [gvL] using hy) (by simpa using hu)
      · rw [gbL] at hy
        rw [List.getElem?_append] at hi
        rw [List.getElem?_append, length_gb] at hy
        split at hi
        · rename_i h; rw [if_pos (by omega)] at hy; exact r2 i d y hi hy
        · rename_i h; rw [if_neg (by omega)] at hy; exact r4 _ d y hi (by rw [hl1]; exact hy)
  have flat : ∀ {x : Tr} {v : Value} {xs : List Tr} {vs : List Value} {ds : List Nat}, nb x = 0 → (∀ n, gb x n = []) → (∀ n box, Rep B w F tok fr box (gv x n) v) → _ → _ :=
    fun {x v xs vs ds} h0 hg hr => step (x := x) (v := v) (xs := xs) (vs := vs) (d1 := []) (ds := ds) [] (by simp [h0]) (by simp) (by simp) (fun n box _ => ⟨hr n box, by simp⟩)
  induction h with
  | nil => exact ⟨[], rfl, by simp, by simp, fun n box _ => ⟨by simp [gvL], by simp⟩⟩
  | v x hp _ ih => exact flat rfl (fun _ => rfl) (fun _ _ => .val _) ih
  | s x _ ih => exact flat rfl (fun _ => rfl) (fun _ _ => .str _) ih
  | none t sz _ ih =>
    refine step (d1 := []) [.nil] rfl (fun i b c hi => ?_) (fun _ i j b c c' hi _ => ?_) (fun n box hb => ⟨.bnil n (hb 0 .nil rfl), fun i d y hi hy => ?_⟩) ih
    · cases i <;> simp at hi
    · cases i <;> simp at hi
    · cases i with
      | zero => simp at hi; subst hi; simp [gb, gvLL] at hy; subst hy; rfl
      | succ i => simp at hi
  | l t sz es b cap c us hb hc hl hm hs hu h1 he _ ih1 ih2 =>
    obtain ⟨ids, i1, i2, i3, i4⟩ := ih1
    refine step (d1 := b :: _) (.blk b cap :: ids) (by simp [nb, nbLL_flatten, i1]) (fun i b' c' hi => ?_) (fun hnd i j b' c1 c2 hi hj => ?_) (fun n box hbox => ?_) ih2
    · cases i with
      | zero => simp at hi; rw [hi.1]; simp
      | succ i => exact List.mem_cons_of_mem _ (i2 i b' c' (by simpa using hi))
    · obtain ⟨n1, n2⟩ := List.nodup_cons.1 hnd
      cases i <;> cases j
      · rfl
      · simp at hi hj; exact absurd (hi.1 ▸ i2 _ _ _ hj) n1
      · simp at hi hj; exact absurd (hj.1 ▸ i2 _ _ _ hi) n1
      · have := i3 n2 _ _ _ _ _ (by simpa using hi) (by simpa using hj); omega
    · obtain ⟨r1, r2⟩ := i4 (n + 1) box (fun i d hi => by have := hbox (i + 1) d (by simpa using hi); rw [show n + 1 + i = n + (i + 1) by omega]; exact this)
      refine ⟨.bsl n es.length b cap (hbox 0 _ rfl) hl, fun i d y hi hy => ?_⟩
      cases i with
      | succ i => simp [gb, gbLL_flatten] at hi hy; exact r2 i d y hi hy
      | zero =>
        simp [gb] at hi hy
        subst hi; subst hy
        have hlen : (gvLL es (n + 1)).length = us.length := by rw [gvLL_flatten, length_gvL, he.length]
        have hus : us.length ≤ c.size := by rw [← hu]; simp; omega
        refine ⟨c, t, hb, by omega, fun i x hx => ?_, rfl, hc, hm⟩
        have hi : i < us.length := by have := getElem?_lt hx; omega
        obtain ⟨g1, g2⟩ := getD_take hu hi
        exact ⟨r1 i x _ (by rw [← gvLL_flatten]; exact hx) g1, h1 _ (List.mem_of_getElem? g1)⟩
  | a fs us h1 he _ ih1 ih2 =>
    obtain ⟨ids, i1, i2, i3, i4⟩ := ih1
    refine step ids (by simp [nb, i1]) i2 i3 (fun n box hbox => ?_) ih2
    obtain ⟨r1, r2⟩ := i4 n box hbox
    have hl := he.length
    have hg : ∀ i, i < us.size → us.toList[i]? = some (us.getD i undef) := fun i hi => by simp [Array.getD, hi]
    refine ⟨.agg _ _ (by rw [length_gvL]; simpa using hl) (fun i hi => h1 _ (List.mem_of_getElem? (hg i hi))) (fun i c hc => ?_), r2⟩
    have hi := getElem?_lt hc
    rw [length_gvL] at hi
    exact r1 i c _ hc (hg i (by simp at hl; omega))
  | p fs us he _ ih1 ih2 =>
    obtain ⟨ids, i1, i2, i3, i4⟩ := ih1
    refine step ids (by simp [nb, i1]) i2 i3 (fun n box hbox => ?_) ih2
    obtain ⟨r1, r2⟩ := i4 n box hbox
    have hl := he.length
    have hg : ∀ i, i < us.size → us.toList[i]? = some (us.getD i undef) := fun i hi => by simp [Array.getD, hi]
    refine ⟨.tup _ _ (by rw [length_gvL]; simpa using hl) (fun i c hc => ?_), r2⟩
    have hi := getElem?_lt hc
    rw [length_gvL] at hi
    exact r1 i c _ hc (hg i (by simp at hl; omega))
end Abs
end Go.Proofs.Ytamcaplpgmloiaa
