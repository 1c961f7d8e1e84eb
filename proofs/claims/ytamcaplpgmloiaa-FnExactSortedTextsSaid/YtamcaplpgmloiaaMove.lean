/-
  Trees in boxes, seen from another numbering of the boxes; trees of a call's own, read.
-/
import Derived.Test.YtamcaplpgmloiaaSound11
namespace Go.Proofs.Ytamcaplpgmloiaa
namespace Abs
open Go.RowKit

section move
variable {B B' : Nat} {w : World} {F F' : Nat → Nat} {tok tok' : List (Option Nat)} {fr fr' : Fr} {box box' : List BId}

mutual
theorem gv_move : ∀ (x : Tr) (n m : Nat), (∀ (i : Nat) d, i < nb x → box[n + i]? = some d → box'[m + i]? = some d) → ∀ v, Rep B w F tok fr box (gv x n) v → Rep B' w F' tok' fr' box' (gv x m) v
  | .v x, _, _, _, v, h => by rw [gv] at h ⊢; rw [h.val_inv]; exact .val _
  | .s x, _, _, _, v, h => by
    rw [gv] at h ⊢; cases h; exact .str _
  | .l t sz xs, n, m, hi, v, h => by
    rw [gv] at h ⊢
    have h0 : ∀ d, box[n]? = some d → box'[m]? = some d := fun d hd => hi 0 d (by rw [nb]; omega) hd
    generalize xs.length = q at h ⊢
    rcases h.bsl_inv with ⟨b, cap, h1, h2, rfl⟩ | ⟨h1, rfl, rfl⟩
    · exact .bsl m q b cap (h0 _ h1) h2
    · exact .bnil m (h0 _ h1)
  | .a fs, n, m, hi, v, h => by
    rw [gv] at h ⊢
    cases h with
    | agg _ vs hl h1 hr =>
      refine .agg _ vs (by rw [length_gvL] at hl ⊢; exact hl) h1 (fun i c hc => ?_)
      obtain ⟨c0, hc0⟩ : ∃ c0, (gvL fs n)[i]? = some c0 := ⟨_, List.getElem?_eq_getElem (by have := getElem?_lt hc; rw [length_gvL] at this ⊢; exact this)⟩
      obtain ⟨c', e1, e2⟩ := gvL_move fs n m (fun i d hid => hi i d (by rw [nb]; exact hid)) i c0 _ hc0 (hr i c0 hc0)
      rw [hc] at e1; cases e1; exact e2
  | .p fs, n, m, hi, v, h => by
    rw [gv] at h ⊢
    cases h with
    | tup _ vs hl hr =>
      refine .tup _ vs (by rw [length_gvL] at hl ⊢; exact hl) (fun i c hc => ?_)
      obtain ⟨c0, hc0⟩ : ∃ c0, (gvL fs n)[i]? = some c0 := ⟨_, List.getElem?_eq_getElem (by have := getElem?_lt hc; rw [length_gvL] at this ⊢; exact this)⟩
      obtain ⟨c', e1, e2⟩ := gvL_move fs n m (fun i d hid => hi i d (by rw [nb]; exact hid)) i c0 _ hc0 (hr i c0 hc0)
      rw [hc] at e1; cases e1; exact e2
theorem gvL_move : ∀ (xs : List Tr) (n m : Nat), (∀ (i : Nat) d, i < nbL xs → box[n + i]? = some d → box'[m + i]? = some d) → ∀ (i : Nat) c v, (gvL xs n)[i]? = some c → Rep B w F tok fr box c v →
    ∃ c', (gvL xs m)[i]? = some c' ∧ Rep B' w F' tok' fr' box' c' v
  | [], _, _, _, i, c, v, hc, _ => by simp [gvL] at hc
  | x :: xs, n, m, hi, i, c, v, hc, h => by
    cases i with
    | zero =>
      simp only [gvL, List.getElem?_cons_zero, Option.some.injEq] at hc
      subst hc
      exact ⟨_, rfl, gv_move x n m (fun i d hid => hi i d (by rw [nbL]; omega)) v h⟩
    | succ i =>
      simp only [gvL, List.getElem?_cons_succ] at hc ⊢
      exact gvL_move xs _ _ (fun i d hid hd => by
        have := hi (nb x + i) d (by rw [nbL]; omega) (by rw [← Nat.add_assoc]; exact hd)
        rw [Nat.add_assoc]; exact this) i c v hc h
end
theorem gvLL_move (xs : List (List Tr)) (n m : Nat) (hi : ∀ (i : Nat) d, i < nbLL xs → box[n + i]? = some d → box'[m + i]? = some d) (i : Nat) (c : AV) (v : Value) (hc : (gvLL xs n)[i]? = some c) (h : Rep B w F tok fr box c v) :
    ∃ c', (gvLL xs m)[i]? = some c' ∧ Rep B' w F' tok' fr' box' c' v := by
  rw [gvLL_flatten] at hc ⊢
  rw [nbLL_flatten] at hi
  exact gvL_move xs.flatten n m hi i c v hc h

mutual
theorem gb_move : ∀ (x : Tr) (n m : Nat), (∀ (i : Nat) d, i < nb x → (box[n + i]? = some d ↔ box'[m + i]? = some d)) → (∀ (j : Nat) d y, box[n + j]? = some d → (gb x n)[j]? = some y → BoxOk B w F tok fr box d y) →
    ∀ (j : Nat) d y, box'[m + j]? = some d → (gb x m)[j]? = some y → BoxOk B' w F' tok' fr' box' d y
  | .v _, _, _, _, _, j, d, y, _, hy => by simp [gb] at hy
  | .s _, _, _, _, _, j, d, y, _, hy => by simp [gb] at hy
  | .l t sz xs, n, m, hi, h, j, d, y, hd, hy => by
    have hsub : ∀ (i : Nat) d, i < nbLL xs → (box[n + 1 + i]? = some d ↔ box'[m + 1 + i]? = some d) := fun i d hid => by
      have := hi (i + 1) d (by rw [nb]; omega)
      rw [show n + 1 + i = n + (i + 1) by omega, show m + 1 + i = m + (i + 1) by omega]; exact this
    cases j with
    | succ j =>
      refine gbLL_move xs (n + 1) (m + 1) hsub (fun j d y hd hy => h (j + 1) d y (by rw [show n + (j + 1) = n + 1 + j by omega]; exact hd) (by simpa [gb] using hy)) j d y (by rw [show m + 1 + j = m + (j + 1) by omega]; exact hd) (by simpa [gb] using hy)
    | zero =>
      simp only [gb, List.getElem?_cons_zero, Option.some.injEq] at hy
      subst hy
      have h0 := h 0 d _ ((hi 0 d (by rw [nb]; omega)).2 hd) (by rw [gb]; rfl)
      cases d with
      | nil =>
        show gvLL xs (m + 1) = []
        have : gvLL xs (n + 1) = [] := h0
        rw [gvLL_flatten] at this ⊢
        exact List.eq_nil_of_length_eq_zero (by rw [length_gvL]; have := congrArg List.length this; rw [length_gvL] at this; exact this)
      | blk b cap =>
        obtain ⟨c, t', h1, h2, h3, h4⟩ := h0
        have hlen : (gvLL xs (m + 1)).length = (gvLL xs (n + 1)).length := by simp only [gvLL_flatten, length_gvL]
        refine ⟨c, t', h1, by omega, fun i z hz => ?_, h4⟩
        obtain ⟨z0, hz0⟩ : ∃ z0, (gvLL xs (n + 1))[i]? = some z0 := ⟨_, List.getElem?_eq_getElem (by rw [← hlen]; exact getElem?_lt hz)⟩
        obtain ⟨z', e1, e2⟩ := gvLL_move (B' := B') (F' := F') (tok' := tok') (fr' := fr') xs (n + 1) (m + 1) (fun i d hid hd => (hsub i d hid).1 hd) i z0 _ hz0 (h3 i z0 hz0).1
        rw [hz] at e1; cases e1
        exact ⟨e2, (h3 i z0 hz0).2⟩
  | .a fs, n, m, hi, h, j, d, y, hd, hy => gbL_move fs n m (fun i d hid => hi i d (by rw [nb]; exact hid)) (fun j d y hd hy => h j d y hd (by rw [gb]; exact hy)) j d y hd (by rw [gb] at hy; exact hy)
  | .p fs, n, m, hi, h, j, d, y, hd, hy => gbL_move fs n m (fun i d hid => hi i d (by rw [nb]; exact hid)) (fun j d y hd hy => h j d y hd (by rw [gb]; exact hy)) j d y hd (by rw [gb] at hy; exact hy)
theorem gbL_move : ∀ (xs : List Tr) (n m : Nat), (∀ (i : Nat) d, i < nbL xs → (box[n + i]? = some d ↔ box'[m + i]? = some d)) → (∀ (j : Nat) d y, box[n + j]? = some d → (gbL xs n)[j]? = some y → BoxOk B w F tok fr box d y) →
    ∀ (j : Nat) d y, box'[m + j]? = some d → (gbL xs m)[j]? = some y → BoxOk B' w F' tok' fr' box' d y
  | [], _, _, _, _, j, d, y, _, hy => by simp [gbL] at hy
  | x :: xs, n, m, hi, h, j, d, y, hd, hy => by
    rw [gbL, List.getElem?_append, length_gb] at hy
    split at hy
    · exact gb_move x n m (fun i d hid => hi i d (by rw [nbL]; omega)) (fun j d y hd hy => h j d y hd (by rw [gbL, List.getElem?_append_left (getElem?_lt hy)]; exact hy)) j d y hd hy
    · rename_i hj
      refine gbL_move xs (n + nb x) (m + nb x) (fun i d hid => ?_) (fun j d y hd hy => h (nb x + j) d y (by rw [← Nat.add_assoc]; exact hd) (by rw [gbL, List.getElem?_append_right (by rw [length_gb]; omega), length_gb, Nat.add_sub_cancel_left]; exact hy)) (j - nb x) d y (by rw [show m + nb x + (j - nb x) = m + j by omega]; exact hd) hy
      have := hi (nb x + i) d (by rw [nbL]; omega)
      rw [Nat.add_assoc, Nat.add_assoc]; exact this
theorem gbLL_move : ∀ (xs : List (List Tr)) (n m : Nat), (∀ (i : Nat) d, i < nbLL xs → (box[n + i]? = some d ↔ box'[m + i]? = some d)) → (∀ (j : Nat) d y, box[n + j]? = some d → (gbLL xs n)[j]? = some y → BoxOk B w F tok fr box d y) →
    ∀ (j : Nat) d y, box'[m + j]? = some d → (gbLL xs m)[j]? = some y → BoxOk B' w F' tok' fr' box' d y
  | [], _, _, _, _, j, d, y, _, hy => by simp [gbLL] at hy
  | x :: xs, n, m, hi, h, j, d, y, hd, hy => by
    rw [gbLL, List.getElem?_append, length_gbL] at hy
    split at hy
    · exact gbL_move x n m (fun i d hid => hi i d (by rw [nbLL]; omega)) (fun j d y hd hy => h j d y hd (by rw [gbLL, List.getElem?_append_left (getElem?_lt hy)]; exact hy)) j d y hd hy
    · rename_i hj
      refine gbLL_move xs (n + nbL x) (m + nbL x) (fun i d hid => ?_) (fun j d y hd hy => h (nbL x + j) d y (by rw [← Nat.add_assoc]; exact hd) (by rw [gbLL, List.getElem?_append_right (by rw [length_gbL]; omega), length_gbL, Nat.add_sub_cancel_left]; exact hy)) (j - nbL x) d y (by rw [show m + nbL x + (j - nbL x) = m + j by omega]; exact hd) hy
      have := hi (nbL x + i) d (by rw [nbLL]; omega)
      rw [Nat.add_assoc, Nat.add_assoc]; exact this
end
end move

theorem flatten_oldLL : ∀ xs, (oldLL xs).flatten = oldL xs.flatten
  | [] => rfl
  | x :: xs => by
    rw [oldLL, List.flatten_cons, List.flatten_cons, flatten_oldLL xs, oldL_eq, oldL_eq, oldL_eq, List.map_append]

theorem okTL_all : ∀ xs, okTL xs = xs.all okT
  | [] => rfl
  | x :: xs => by rw [okTL, okTL_all xs]; rfl
theorem okTLL_flatten : ∀ xs, okTLL xs = okTL xs.flatten
  | [] => rfl
  | x :: xs => by rw [okTLL, okTLL_flatten xs, List.flatten_cons, okTL_all, okTL_all, okTL_all, List.all_append]

/-- A tree of its own, read. -/
theorem OwnL.rep {w : World} (B : Nat) (F : Nat → Nat) (tok : List (Option Nat)) (fr : Fr) {xs : List Tr} {vs : List Value} {ds : List Nat} (h : OwnL w xs vs ds)
    (hF : ∀ d ∈ ds, ∀ c t z, w.heap[d]? = some (.cells c t z) → c.size ≤ F d) (hok : okTL xs = true) : ∀ (i : Nat) x v, xs[i]? = some x → vs[i]? = some v → ∀ box, Rep B w F tok fr box (old x) v := by
  have step : ∀ {x : Tr} {v : Value} {xs : List Tr} {vs : List Value}, (∀ box, Rep B w F tok fr box (old x) v) → (∀ (i : Nat) x v, xs[i]? = some x → vs[i]? = some v → ∀ box, Rep B w F tok fr box (old x) v) →
      ∀ (i : Nat) y u, (x :: xs)[i]? = some y → (v :: vs)[i]? = some u → ∀ box, Rep B w F tok fr box (old y) u := fun h1 h2 i y u hy hu => by
    cases i with
    | zero => simp at hy hu; subst hy; subst hu; exact h1
    | succ i => exact h2 i y u (by simpa using hy) (by simpa using hu)
  induction h with
  | nil => intro i x v h; simp at h
  | v x hp _ ih => rw [okTL, Bool.and_eq_true] at hok; exact step (fun _ => .val _) (ih hF hok.2)
  | s x _ ih => rw [okTL, Bool.and_eq_true] at hok; exact step (fun _ => .str _) (ih hF hok.2)
  | none t sz _ ih =>
    rw [okTL, Bool.and_eq_true] at hok
    exact step (fun _ => .list Option.none [] Option.none 0 0 0 0 (fun _ _ => undef) (Nat.le_refl _) (fun h => absurd rfl h) (by simp) (fun h => absurd rfl h) (by simp) (by simp) (fun k hk => by cases hk)) (ih hF hok.2)
  | l t sz es b cap c us hb hc hl hm hs hu h1 he _ ih1 ih2 =>
    rw [okTL, Bool.and_eq_true] at hok
    refine step (fun box => ?_) (ih2 (fun d hd => hF d (by simp [hd])) hok.2)
    have ho := hok.1
    rw [okT, Bool.and_eq_true, okTLL_flatten] at ho
    have g := ih1 (fun d hd => hF d (by simp [hd])) ho.2
    have hlen : (oldLL es).length = es.length := by rw [oldLL_eq]; simp
    have hsz : ∀ e ∈ oldLL es, e.length = sz := fun e he => by
      rw [oldLL_eq] at he
      obtain ⟨e', he', rfl⟩ := List.mem_map.1 he
      rw [List.length_map]; exact hs e' he'
    have hcs : es.length * sz ≤ c.size := by rw [hc]; exact Nat.mul_le_mul_right _ hl
    have hul : us.length = es.length * sz := by rw [← hu]; simp; omega
    have key : ∀ (i : Nat) e (j : Nat) y, (oldLL es)[i]? = some e → e[j]? = some y → i * sz + j < c.size ∧ us[i * sz + j]? = some (c.getD (i * sz + j) undef) ∧ Rep B w F tok fr [] y (c.getD (i * sz + j) undef) := fun i e j y hi hj => by
      have hf := flatten_get sz (oldLL es) i j e y hsz hi hj
      rw [flatten_oldLL, oldL_eq, List.getElem?_map] at hf
      obtain ⟨x, hx, rfl⟩ := Option.map_eq_some_iff.1 hf
      have hlt : i * sz + j < us.length := by rw [← he.length]; exact getElem?_lt hx
      obtain ⟨g1, g2⟩ := getD_take hu hlt
      exact ⟨g2, g1, g _ x _ hx g1 []⟩
    show Rep B w F tok fr box (.list Option.none (oldLL es)) (.slice (some ⟨b, 0, Option.none⟩) es.length cap)
    rw [← hlen]
    refine .list Option.none (oldLL es) _ cap sz b 0 (fun i j => c.getD (i * sz + j) undef) (by omega) (fun _ => rfl) hsz (fun _ => ?_) (fun i e j y hi hj => ?_) (fun i e j y hi hj => (key i e j y hi hj).2.2) (fun k hk => by cases hk)
    · have := hF b (by simp) c t _ hb
      rw [hlen]; omega
    · obtain ⟨k1, k2, _⟩ := key i e j y hi hj
      exact ⟨by rw [Nat.zero_add]; simp [World.cell?, hb, k1, Array.getD], h1 _ (List.mem_of_getElem? k2)⟩
  | a fs us h1 he _ ih1 ih2 =>
    rw [okTL, Bool.and_eq_true] at hok
    refine step (fun box => ?_) (ih2 (fun d hd => hF d (by simp [hd])) hok.2)
    have g := ih1 (fun d hd => hF d (by simp [hd])) (by simpa [okT] using hok.1)
    have hl := he.length
    have hg : ∀ i, i < us.size → us.toList[i]? = some (us.getD i undef) := fun i hi => by simp [Array.getD, hi]
    refine .agg _ us (by rw [oldL_eq]; simpa using hl) (fun i hi => h1 _ (List.mem_of_getElem? (hg i hi))) (fun i c hc => ?_)
    rw [oldL_eq, List.getElem?_map] at hc
    obtain ⟨x, hx, rfl⟩ := Option.map_eq_some_iff.1 hc
    exact g i x _ hx (hg i (by have := getElem?_lt hx; simp at hl; omega)) box
  | p fs us he _ ih1 ih2 =>
    rw [okTL, Bool.and_eq_true] at hok
    refine step (fun box => ?_) (ih2 (fun d hd => hF d (by simp [hd])) hok.2)
    have g := ih1 (fun d hd => hF d (by simp [hd])) (by simpa [okT] using hok.1)
    have hl := he.length
    have hg : ∀ i, i < us.size → us.toList[i]? = some (us.getD i undef) := fun i hi => by simp [Array.getD, hi]
    refine .tup _ us (by rw [oldL_eq]; simpa using hl) (fun i c hc => ?_)
    rw [oldL_eq, List.getElem?_map] at hc
    obtain ⟨x, hx, rfl⟩ := Option.map_eq_some_iff.1 hc
    exact g i x _ hx (hg i (by have := getElem?_lt hx; simp at hl; omega)) box
end Abs
end Go.Proofs.Ytamcaplpgmloiaa
