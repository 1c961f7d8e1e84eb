/-
  What a callee may know of a value: tokens are taken off, boxes are seen as trees.
-/
import Derived.Test.YtamcaplpgmloiaaTr
namespace Go.Proofs.Ytamcaplpgmloiaa
namespace Abs
open Go.RowKit

mutual
def mapT (f : Nat → Option Nat) : AV → AV
  | .list o xs => .list (o.bind f) (mapTLL f xs)
  | .agg cs => .agg (mapTL f cs)
  | .tup vs => .tup (mapTL f vs)
  | .rptr cs => .rptr (mapTL f cs)
  | .clo g xs ys => .clo g (mapTL f xs) (mapTL f ys)
  | .bptr _ _ => .any
  | .bsl _ _ => .any
  | .cond _ _ => .any
  | .any => .any
  | .val v => .val v
  | .str s => .str s
def mapTL (f : Nat → Option Nat) : List AV → List AV
  | [] => []
  | c :: cs => mapT f c :: mapTL f cs
def mapTLL (f : Nat → Option Nat) : List (List AV) → List (List AV)
  | [] => []
  | c :: cs => mapTL f c :: mapTLL f cs
end
def noTok (_ : Nat) : Option Nat := none
def erase (x : AV) : AV := mapT noTok x
def shift (n : Nat) (x : AV) : AV := mapT (fun k => some (k + n)) x

theorem mapTL_eq (f : Nat → Option Nat) : ∀ cs, mapTL f cs = cs.map (mapT f)
  | [] => rfl
  | c :: cs => by rw [mapTL, mapTL_eq f cs]; rfl
theorem mapTLL_eq (f : Nat → Option Nat) : ∀ xs, mapTLL f xs = xs.map fun e => e.map (mapT f)
  | [] => rfl
  | c :: cs => by rw [mapTLL, mapTLL_eq f cs, mapTL_eq]; rfl

theorem mapTLL_get {f : Nat → Option Nat} {xs : List (List AV)} {i j : Nat} {e : List AV} {c : AV} (hi : (mapTLL f xs)[i]? = some e) (hj : e[j]? = some c) :
    ∃ e' c', xs[i]? = some e' ∧ e'[j]? = some c' ∧ e = e'.map (mapT f) ∧ c = mapT f c' := by
  rw [mapTLL_eq, List.getElem?_map] at hi
  obtain ⟨e', he, rfl⟩ := Option.map_eq_some_iff.1 hi
  rw [List.getElem?_map] at hj
  obtain ⟨c', hc, rfl⟩ := Option.map_eq_some_iff.1 hj
  exact ⟨e', c', he, hc, rfl, rfl⟩

theorem mapTL_get {f : Nat → Option Nat} {cs : List AV} {j : Nat} {c : AV} (hj : (mapTL f cs)[j]? = some c) : ∃ c', cs[j]? = some c' ∧ c = mapT f c' := by
  rw [mapTL_eq, List.getElem?_map] at hj
  obtain ⟨c', hc, rfl⟩ := Option.map_eq_some_iff.1 hj
  exact ⟨c', hc, rfl⟩

theorem length_mapTLL (f : Nat → Option Nat) (xs : List (List AV)) : (mapTLL f xs).length = xs.length := by rw [mapTLL_eq]; simp
theorem length_mapTL (f : Nat → Option Nat) (xs : List AV) : (mapTL f xs).length = xs.length := by rw [mapTL_eq]; simp

/-- A reading goes over to other tokens, and to other boxes. -/
theorem Rep.mapT {B B' : Nat} {w : World} {F : Nat → Nat} {tok tok' : List (Option Nat)} {fr fr' : Fr} {box : List BId} (f : Nat → Option Nat)
    (hf : ∀ k l, f k = some l → ∀ (t s n : Nat), fr[k]? = some (t, s, n) → fr'[l]? = some (t, s, n) ∧ tok'[l]? = tok[k]?) (hB : ∀ k l, f k = some l → B' ≤ B)
    {x : AV} {v : Value} (h : Rep B w F tok fr box x v) : ∀ box', Rep B' w F tok' fr' box' (Abs.mapT f x) v := by
  induction h with
  | any v => exact fun _ => .any v
  | val v => exact fun _ => .val v
  | str s => exact fun _ => .str s
  | list o xs a cap sz b off vs hcap ha hsz hF hc hr ho ih =>
    intro box'
    have hne : mapTLL f xs ≠ [] → xs ≠ [] := by rintro h rfl; exact h rfl
    show Rep B' w F tok' fr' box' (.list (o.bind f) (mapTLL f xs)) (.slice a xs.length cap)
    rw [← length_mapTLL f xs]
    refine .list (o.bind f) (mapTLL f xs) a cap sz b off vs (by rw [length_mapTLL]; exact hcap) (fun h => ha (hne h)) (fun e he => ?_) (fun h => by rw [length_mapTLL]; exact hF (hne h)) (fun i e j c hi hj => ?_) (fun i e j c hi hj => ?_) (fun l hl => ?_)
    · rw [mapTLL_eq] at he
      obtain ⟨e', he', rfl⟩ := List.mem_map.1 he
      rw [List.length_map]; exact hsz e' he'
    · obtain ⟨e', c', h1, h2, _, _⟩ := mapTLL_get hi hj
      exact hc i e' j c' h1 h2
    · obtain ⟨e', c', h1, h2, _, rfl⟩ := mapTLL_get hi hj
      exact ih i e' j c' h1 h2 []
    · obtain ⟨k, rfl, hk⟩ := Option.bind_eq_some_iff.1 hl
      obtain ⟨t, s, n, hfr, hle, hown⟩ := ho k rfl
      obtain ⟨h1, h2⟩ := hf k l hk t s n hfr
      refine ⟨t, s, n, h1, by rw [length_mapTLL]; exact hle, fun he => ?_⟩
      rw [length_mapTLL] at he ⊢
      obtain ⟨e1, ⟨vals, hv⟩, hk', hFb⟩ := hown he
      refine ⟨e1, ⟨vals, hv.1, ?_⟩, by rw [h2]; exact hk', hFb⟩
      rcases hv.2 with hn | ⟨g, cap', cur, he', hBg, rest⟩
      · exact Or.inl hn
      · exact Or.inr ⟨g, cap', cur, he', Nat.le_trans (hB k l hk) hBg, rest⟩
  | agg cs vs h h1 _ ih =>
    refine fun box' => .agg _ _ (by rw [length_mapTL]; exact h) h1 (fun i c hc => ?_)
    obtain ⟨c', h2, rfl⟩ := mapTL_get hc
    exact ih i c' h2 box'
  | tup cs vs h _ ih =>
    refine fun box' => .tup _ _ (by rw [length_mapTL]; exact h) (fun i c hc => ?_)
    obtain ⟨c', h2, rfl⟩ := mapTL_get hc
    exact ih i c' h2 box'
  | rptr cs b off vs hF hc hr ih =>
    refine fun box' => .rptr _ b off vs (fun h => by rw [length_mapTL]; exact hF (by rintro rfl; exact h rfl)) (fun j c hj => ?_) (fun j c hj => ?_)
    · obtain ⟨c', h2, _⟩ := mapTL_get hj
      exact hc j c' h2
    · obtain ⟨c', h2, rfl⟩ := mapTL_get hj
      exact ih j c' h2 []
  | bptr => exact fun _ => .any _
  | bsl => exact fun _ => .any _
  | bnil => exact fun _ => .any _
  | clo g xs ys vf vc h1 h2 _ _ ih1 ih2 =>
    refine fun box' => .clo g _ _ vf vc (by rw [length_mapTL]; exact h1) (by rw [length_mapTL]; exact h2) (fun i c hc => ?_) (fun i c hc => ?_)
    · obtain ⟨c', h3, rfl⟩ := mapTL_get hc
      exact ih1 i c' h3 box'
    · obtain ⟨c', h3, rfl⟩ := mapTL_get hc
      exact ih2 i c' h3 box'

theorem RepT.erase {B : Nat} {w : World} {F : Nat → Nat} {tok : List (Option Nat)} {fr : Fr} {box : List BId} {x : AV} {v : Value} (h : RepT B w F tok fr box x v) (B' : Nat) (box' : List BId) : Rep B' w F [] [] box' (Abs.erase x) v := by
  cases h with
  | rep _ _ h => exact h.mapT _ (fun _ _ h => by cases h) (fun _ _ h => by cases h) box'
  | cond g x v h hn => exact .any _

/-! what is seen of a value without boxes, and with them -/
def Sees0 (x y : AV) : Prop := ∀ {B : Nat} {w : World} {F : Nat → Nat} {tok : List (Option Nat)} {fr : Fr} {box : List BId} {v : Value}, RepT B w F tok fr box x v → ∀ B' box', Rep B' w F [] [] box' y v
def SeesB (bx : List ABox) (x y : AV) : Prop := ∀ {B : Nat} {w : World} {F : Nat → Nat} {tok : List (Option Nat)} {fr : Fr} {box : List BId} {v : Value} (F' : Nat → Nat),
  BoxesOk B w F tok fr box bx → (∀ b, F b ≤ F' b) → (∀ (b : Nat) c t z, w.heap[b]? = some (.cells c t z) → c.size ≤ F' b) → RepT B w F tok fr box x v → ∀ B' box', Rep B' w F' [] [] box' y v

theorem Sees0.erase {x y : AV} (h : Abs.erase x = y) : Sees0 x y := fun hx B' box' => h ▸ hx.erase B' box'
theorem Sees0.val (v : Value) : Sees0 (.val v) (.val v) := Sees0.erase rfl
theorem Sees0.str (s : Str) : Sees0 (.str s) (.str s) := Sees0.erase rfl
theorem Sees0.any (x : AV) : Sees0 x .any := fun _ _ _ => .any _
theorem Sees0.list {o : Option Nat} {xs ys : List (List AV)} (h : mapTLL noTok xs = ys) : Sees0 (.list o xs) (.list none ys) := Sees0.erase (by
  subst h; simp only [Abs.erase, Abs.mapT]; congr 1; cases o <;> rfl)
theorem Sees0.nil : Sees0 (.val (.slice none 0 0)) (.list none []) := fun hx B' box' => by
  rw [hx.val_inv]
  exact .list none [] none 0 0 0 0 (fun _ _ => undef) (Nat.le_refl _) (fun h => absurd rfl h) (by simp) (fun h => absurd rfl h) (by simp) (by simp) (fun k hk => by cases hk)

/-- members, one by one -/
inductive SeesL (S : AV → AV → Prop) : List AV → List AV → Prop
  | nil : SeesL S [] []
  | cons {x y : AV} {xs ys : List AV} (h : S x y) (hs : SeesL S xs ys) : SeesL S (x :: xs) (y :: ys)
theorem SeesL.length {S : AV → AV → Prop} {xs ys : List AV} (h : SeesL S xs ys) : xs.length = ys.length := by induction h <;> simp_all
theorem SeesL.get {S : AV → AV → Prop} {xs ys : List AV} (h : SeesL S xs ys) : ∀ (i : Nat) x y, xs[i]? = some x → ys[i]? = some y → S x y := by
  induction h with
  | nil => simp
  | cons h _ ih =>
    intro i x y hx hy
    cases i with
    | zero => simp at hx hy; subst hx; subst hy; exact h
    | succ i => exact ih i x y (by simpa using hx) (by simpa using hy)
theorem SeesL.get' {S : AV → AV → Prop} {xs ys : List AV} (h : SeesL S xs ys) {i : Nat} {y : AV} (hy : ys[i]? = some y) : ∃ x, xs[i]? = some x ∧ S x y := by
  have hi : i < xs.length := by have := getElem?_lt hy; rw [h.length]; exact this
  exact ⟨_, List.getElem?_eq_getElem hi, h.get i _ y (List.getElem?_eq_getElem hi) hy⟩

theorem Sees0.agg {xs ys : List AV} (h : SeesL Sees0 xs ys) : Sees0 (.agg xs) (.agg ys) := fun hx B' box' => by
  have hx := hx.agg_inv
  cases hx with
  | agg _ vs hl h1 hr =>
    refine .agg _ _ (by rw [← h.length]; exact hl) h1 (fun i c hc => ?_)
    obtain ⟨x, hx, hs⟩ := h.get' hc
    exact hs (.rep _ _ (hr i x hx)) B' box'

theorem Sees0.clo {f : Nat} {xs ys xs' ys' : List AV} (h : SeesL Sees0 xs ys) (h' : SeesL Sees0 xs' ys') : Sees0 (.clo f xs xs') (.clo f ys ys') := fun hx B' box' => by
  have hx := hx.clo_inv
  cases hx with
  | clo _ _ _ vf vc h1 h2 hr1 hr2 =>
    refine .clo f _ _ vf vc (by rw [← h.length]; exact h1) (by rw [← h'.length]; exact h2) (fun i c hc => ?_) (fun i c hc => ?_)
    · obtain ⟨x, hx, hs⟩ := h.get' hc
      exact hs (.rep _ _ (hr1 i x hx)) B' box'
    · obtain ⟨x, hx, hs⟩ := h'.get' hc
      exact hs (.rep _ _ (hr2 i x hx)) B' box'

theorem Rep.more {B : Nat} {w : World} {F F' : Nat → Nat} {box : List BId} {x : AV} {v : Value} (h : Rep B w F [] [] box x v) (hF : ∀ b, F b ≤ F' b) : Rep B w F' [] [] box x v :=
  h.later ⟨fun _ _ _ => rfl, hF, fun k t s n hk => by simp at hk⟩ (fun _ _ h => h)

theorem SeesB.of0 {bx : List ABox} {x y : AV} (h : Sees0 x y) : SeesB bx x y := fun _ _ hF _ hx B' box' => (h hx B' box').more hF

theorem SeesB.agg {bx : List ABox} {xs ys : List AV} (h : SeesL (SeesB bx) xs ys) : SeesB bx (.agg xs) (.agg ys) := fun F' hb hF hc hx B' box' => by
  have hx := hx.agg_inv
  cases hx with
  | agg _ vs hl h1 hr =>
    refine .agg _ _ (by rw [← h.length]; exact hl) h1 (fun i c hc' => ?_)
    obtain ⟨x, hx, hs⟩ := h.get' hc'
    exact hs F' hb hF hc (.rep _ _ (hr i x hx)) B' box'

theorem SeesB.clo {bx : List ABox} {f : Nat} {xs ys xs' ys' : List AV} (h : SeesL (SeesB bx) xs ys) (h' : SeesL (SeesB bx) xs' ys') : SeesB bx (.clo f xs xs') (.clo f ys ys') := fun F' hb hF hc hx B' box' => by
  have hx := hx.clo_inv
  cases hx with
  | clo _ _ _ vf vc h1 h2 hr1 hr2 =>
    refine .clo f _ _ vf vc (by rw [← h.length]; exact h1) (by rw [← h'.length]; exact h2) (fun i c hc' => ?_) (fun i c hc' => ?_)
    · obtain ⟨x, hx, hs⟩ := h.get' hc'
      exact hs F' hb hF hc (.rep _ _ (hr1 i x hx)) B' box'
    · obtain ⟨x, hx, hs⟩ := h'.get' hc'
      exact hs F' hb hF hc (.rep _ _ (hr2 i x hx)) B' box'

/-- a variable, read through its address -/
theorem SeesB.bptr {bx : List ABox} {j off : Nat} {k : RK} {cs ys : List AV} (hj : bx[j]? = some (.cells k cs)) (h : SeesL (SeesB bx) (cs.drop off) ys) (_hn : ∀ y ∈ ys, noRef y = true) : SeesB bx (.bptr j off) (.rptr ys) := fun F' hb hF hc hx B' box' => by
  obtain ⟨b, cap, hbj, rfl⟩ := hx.bptr_inv
  obtain ⟨c, t, hh, hle, hr, _⟩ := hb j _ _ hbj hj
  refine .rptr _ b off (fun i => c.getD (off + i) undef) (fun hne => ?_) (fun i y hy => ?_) (fun i y hy => ?_)
  · have h1 := h.length
    rw [List.length_drop] at h1
    have h2 := hc b c t _ hh
    have h3 : 0 < ys.length := List.length_pos_iff.2 hne
    omega
  · obtain ⟨x, hx, _⟩ := h.get' hy
    rw [List.getElem?_drop] at hx
    have hlt : off + i < c.size := by have := getElem?_lt hx; omega
    exact ⟨by simp [World.cell?, hh, hlt, Array.getD], (hr _ x hx).2⟩
  · obtain ⟨x, hx, hs⟩ := h.get' hy
    rw [List.getElem?_drop] at hx
    exact hs F' hb hF hc (.rep _ _ (hr _ x hx).1) B' []

/-- the row of a slice, read as a list -/
theorem SeesB.bsl {bx : List ABox} {j n t sz : Nat} {cs : List AV} {ys : List (List AV)} (hj : bx[j]? = some (.cells (.row t sz) cs)) (hn : ys.length = n) (hs : ∀ e ∈ ys, e.length = sz)
    (h : SeesL (SeesB bx) cs ys.flatten) : SeesB bx (.bsl j n) (.list none ys) := fun F' hb hF hc hx B' box' => by
  rcases hx.bsl_inv with ⟨b, cap, hbj, hcap, rfl⟩ | ⟨hbj, rfl, rfl⟩
  · obtain ⟨c, t', hh, hle, hr, _⟩ := hb j _ _ hbj hj
    subst hn
    have key : ∀ (i : Nat) e (q : Nat) y, ys[i]? = some e → e[q]? = some y → ∃ x, cs[i * sz + q]? = some x ∧ SeesB bx x y := by
      intro i e q y hi hq
      have : ∀ (ys : List (List AV)) (i : Nat) e, (∀ e ∈ ys, e.length = sz) → ys[i]? = some e → e[q]? = some y → ys.flatten[i * sz + q]? = some y := by
        intro ys
        induction ys with
        | nil => intro i e _ h; simp at h
        | cons d ys ih =>
          intro i e hall hi hq
          have hd := hall d (by simp)
          cases i with
          | zero => simp at hi; subst hi; rw [List.flatten_cons, Nat.zero_mul, Nat.zero_add, List.getElem?_append_left (getElem?_lt hq)]; exact hq
          | succ i =>
            rw [List.flatten_cons, List.getElem?_append_right (by rw [hd, Nat.add_mul]; omega), hd, show (i + 1) * sz + q - sz = i * sz + q by rw [Nat.add_mul]; omega]
            exact ih i e (fun e he => hall e (by simp [he])) (by simpa using hi) hq
      exact h.get' (this ys i e hs hi hq)
    have hlen : cs.length = ys.length * sz := by
      rw [h.length, List.length_flatten]
      have : ys.map List.length = List.replicate ys.length sz := List.eq_replicate_iff.2 ⟨by simp, fun b hb => by obtain ⟨e, he, rfl⟩ := List.mem_map.1 hb; exact hs e he⟩
      rw [this]; simp
    refine .list none ys _ cap sz b 0 (fun i q => c.getD (i * sz + q) undef) hcap (fun _ => rfl) hs (fun _ => ?_) (fun i e q y hi hq => ?_) (fun i e q y hi hq => ?_) (fun k hk => by cases hk)
    · have := hc b c t' _ hh; omega
    · obtain ⟨x, hx, _⟩ := key i e q y hi hq
      have hlt : i * sz + q < c.size := by have := getElem?_lt hx; omega
      exact ⟨by rw [Nat.zero_add]; simp [World.cell?, hh, hlt, Array.getD], (hr _ x hx).2⟩
    · obtain ⟨x, hx, hs'⟩ := key i e q y hi hq
      exact hs' F' hb hF hc (.rep _ _ (hr _ x hx).1) B' []
  · have : ys = [] := List.eq_nil_of_length_eq_zero hn
    subst this
    exact .list none [] none 0 0 0 0 (fun _ _ => undef) (Nat.le_refl _) (fun h => absurd rfl h) (by simp) (fun h => absurd rfl h) (by simp) (by simp) (fun k hk => by cases hk)

/-! trees -/
def BoxIn (bx : List ABox) (n : Nat) (bs : List ABox) : Prop := ∀ (i : Nat) b, bs[i]? = some b → bx[n + i]? = some b
theorem BoxIn.left {bx : List ABox} {n : Nat} {bs cs : List ABox} (h : BoxIn bx n (bs ++ cs)) : BoxIn bx n bs := fun i b hi => h i b (by rw [List.getElem?_append_left (getElem?_lt hi)]; exact hi)
theorem BoxIn.right {bx : List ABox} {n m : Nat} {bs cs : List ABox} (h : BoxIn bx n (bs ++ cs)) (hm : bs.length = m) : BoxIn bx (n + m) cs := fun i b hi => by
  have := h (m + i) b (by rw [List.getElem?_append_right (by omega), hm, Nat.add_sub_cancel_left]; exact hi)
  rw [Nat.add_assoc]; exact this
theorem BoxIn.mid (pre bs post : List ABox) : BoxIn (pre ++ bs ++ post) pre.length bs := fun i b hi => by
  rw [List.append_assoc, List.getElem?_append_right (by omega), Nat.add_sub_cancel_left, List.getElem?_append_left (getElem?_lt hi)]; exact hi

mutual
theorem sees_gv : ∀ (x : Tr) (bx : List ABox) (n : Nat), okT x = true → BoxIn bx n (gb x n) → SeesB bx (gv x n) (old x)
  | .v x, _, _, _, _ => SeesB.of0 (Sees0.val x)
  | .s x, _, _, _, _ => SeesB.of0 (Sees0.str x)
  | .l t sz xs, bx, n, ho, h => by
    rw [okT, Bool.and_eq_true] at ho
    refine SeesB.bsl (t := t) (sz := sz) (cs := gvLL xs (n + 1)) (h 0 _ rfl) (by rw [oldLL_eq]; simp) (fun e he => ?_) ?_
    · rw [oldLL_eq] at he
      obtain ⟨e', he', rfl⟩ := List.mem_map.1 he
      have := List.all_eq_true.1 ho.1 e' he'
      simpa using this
    · have h' : BoxIn bx (n + 1) (gbLL xs (n + 1)) := fun i b hi => by have := h (i + 1) b (by simpa [gb] using hi); rw [show n + 1 + i = n + (i + 1) by omega]; exact this
      exact sees_gvLL xs bx (n + 1) ho.2 h'
  | .a fs, bx, n, ho, h => SeesB.agg (sees_gvL fs bx n (by simpa [okT] using ho) h)
  | .p fs, bx, n, ho, h => fun F' hb hF hc hx B' box' => by
    have hs := sees_gvL fs bx n (by simpa [okT] using ho) h
    have hx := hx.tup_inv
    cases hx with
    | tup _ vs hl hr =>
      refine .tup _ _ (by rw [← hs.length]; exact hl) (fun i c hc' => ?_)
      obtain ⟨x, hx, hs'⟩ := hs.get' hc'
      exact hs' F' hb hF hc (.rep _ _ (hr i x hx)) B' box'
theorem sees_gvL : ∀ (xs : List Tr) (bx : List ABox) (n : Nat), okTL xs = true → BoxIn bx n (gbL xs n) → SeesL (SeesB bx) (gvL xs n) (oldL xs)
  | [], _, _, _, _ => .nil
  | x :: xs, bx, n, ho, h => by
    rw [okTL, Bool.and_eq_true] at ho
    exact .cons (sees_gv x bx n ho.1 h.left) (sees_gvL xs bx (n + nb x) ho.2 (h.right (length_gb x n)))
theorem sees_gvLL : ∀ (xs : List (List Tr)) (bx : List ABox) (n : Nat), okTLL xs = true → BoxIn bx n (gbLL xs n) → SeesL (SeesB bx) (gvLL xs n) (oldLL xs).flatten
  | [], _, _, _, _ => .nil
  | x :: xs, bx, n, ho, h => by
    rw [okTLL, Bool.and_eq_true] at ho
    have h1 := sees_gvL x bx n ho.1 h.left
    have h2 := sees_gvLL xs bx (n + nbL x) ho.2 (h.right (length_gbL x n))
    have app : ∀ {k1 k2 k3 k4 : List AV}, SeesL (SeesB bx) k1 k2 → SeesL (SeesB bx) k3 k4 → SeesL (SeesB bx) (k1 ++ k3) (k2 ++ k4) := by
      intro k1 k2 k3 k4 h1 h2
      induction h1 with
      | nil => exact h2
      | cons h _ ih => exact .cons h ih
    exact app h1 h2
end
end Abs
end Go.Proofs.Ytamcaplpgmloiaa
