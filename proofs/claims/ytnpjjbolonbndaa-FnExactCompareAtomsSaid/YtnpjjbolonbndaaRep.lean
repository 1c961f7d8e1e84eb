/-
  What abstract values say of Go's values in a world ('Rep'), and that they go on saying it while memory grows.
-/
import Derived.Test.YtnpjjbolonbndaaAbs
namespace Go.Proofs.Ytnpjjbolonbndaa
namespace Abs
open Go.RowKit

/-- The slice is the one whose length its token has: it owns its block. -/
def OwnerP (B : Nat) (w : World) (F : Nat → Nat) (tok : List (Option Nat)) (k t : Nat) (a : Option Addr) (n cap sz sz' : Nat) : Prop :=
  sz = sz' ∧ (∃ vals, w.ownsRow B t sz (.slice a n cap) n vals) ∧ tok[k]? = some (a.map (·.block)) ∧ (∀ b, a.map (·.block) = some b → F b = n * sz)

inductive Rep (B : Nat) (w : World) (F : Nat → Nat) (tok : List (Option Nat)) (fr : Fr) : AV → Value → Prop
  | any (v : Value) : Rep B w F tok fr .any v
  | val (v : Value) : Rep B w F tok fr (.val v) v
  | str (s : Str) : Rep B w F tok fr (.str s) (mkS s)
  | list (o : Option Nat) (xs : List (List AV)) (a : Option Addr) (cap sz b off : Nat) (vs : Nat → Nat → Value)
      (hcap : xs.length ≤ cap)
      (ha : xs ≠ [] → a = some ⟨b, off, none⟩)
      (hsz : ∀ e ∈ xs, e.length = sz)
      (hF : xs ≠ [] → off + xs.length * sz ≤ F b)
      (hc : ∀ i e j c, xs[i]? = some e → e[j]? = some c → w.cell? ⟨b, off + i * sz + j, none⟩ = some (vs i j) ∧ (vs i j).oneCell' = true)
      (hr : ∀ i e j c, xs[i]? = some e → e[j]? = some c → Rep B w F tok fr c (vs i j))
      (ho : ∀ k, o = some k → ∃ t s n : Nat, fr[k]? = some (t, s, n) ∧ xs.length ≤ n ∧ (xs.length = n → OwnerP B w F tok k t a xs.length cap s sz)) :
      Rep B w F tok fr (.list o xs) (.slice a xs.length cap)
  | agg (cs : List AV) (vs : Array Value) (h : cs.length = vs.size) (h1 : ∀ i, i < vs.size → (vs.getD i undef).oneCell' = true)
      (hr : ∀ i c, cs[i]? = some c → Rep B w F tok fr c (vs.getD i undef)) : Rep B w F tok fr (.agg cs) (.agg vs)
  | tup (cs : List AV) (vs : Array Value) (h : cs.length = vs.size)
      (hr : ∀ i c, cs[i]? = some c → Rep B w F tok fr c (vs.getD i undef)) : Rep B w F tok fr (.tup cs) (.tuple vs)
  | rptr (cs : List AV) (b off : Nat) (vs : Nat → Value)
      (hF : cs ≠ [] → off + cs.length ≤ F b)
      (hc : ∀ j c, cs[j]? = some c → w.cell? ⟨b, off + j, none⟩ = some (vs j) ∧ (vs j).oneCell' = true)
      (hr : ∀ j c, cs[j]? = some c → Rep B w F tok fr c (vs j)) : Rep B w F tok fr (.rptr cs) (.pointer (some ⟨b, off, none⟩))

inductive RepT (B : Nat) (w : World) (F : Nat → Nat) (tok : List (Option Nat)) (fr : Fr) (box : List Nat) : AV → Value → Prop
  | rep (x : AV) (v : Value) (h : Rep B w F tok fr x v) : RepT B w F tok fr box x v
  | bptr (j off b : Nat) (h : box[j]? = some b) : RepT B w F tok fr box (.bptr j off) (.pointer (some ⟨b, off, none⟩))
  | bsl (j n b : Nat) (h : box[j]? = some b) : RepT B w F tok fr box (.bsl j n) (.slice (some ⟨b, 0, none⟩) n n)
  | cond (g : Bool) (x : AV) (v : Value) (h : g = true → RepT B w F tok fr box x v) (hn : g = false → v = undef) : RepT B w F tok fr box (.cond g x) v

structure Later (w : World) (F : Nat → Nat) (tok : List (Option Nat)) (fr : Fr) (w' : World) (F' : Nat → Nat) (tok' : List (Option Nat)) (fr' : Fr) : Prop where
  cell : ∀ b i, i < F b → w'.cell? ⟨b, i, none⟩ = w.cell? ⟨b, i, none⟩
  le : ∀ b, F b ≤ F' b
  tok : ∀ (k t s n : Nat), fr[k]? = some (t, s, n) → ∃ n' : Nat, fr'[k]? = some (t, s, n') ∧ n ≤ n' ∧
    (n' = n → tok'[k]? = tok[k]? ∧ ∀ b, tok[k]? = some (some b) → w'.heap[b]? = w.heap[b]? ∧ F' b = F b)

theorem idx_lt {off i j sz n m : Nat} (hi : i < n) (hj : j < sz) (h : off + n * sz ≤ m) : off + i * sz + j < m := by
  have : (i + 1) * sz ≤ n * sz := Nat.mul_le_mul_right _ hi
  rw [Nat.add_mul] at this
  omega

theorem getElem?_lt {α : Type} {l : List α} {i : Nat} {x : α} (h : l[i]? = some x) : i < l.length := (List.getElem?_eq_some_iff.1 h).1

theorem OwnerP.same {B : Nat} {w w' : World} {F F' : Nat → Nat} {tok tok' : List (Option Nat)} {k t : Nat} {a : Option Addr} {n cap s sz : Nat}
    (h : OwnerP B w F tok k t a n cap s sz) (ht : tok'[k]? = tok[k]?) (hb : ∀ b, tok[k]? = some (some b) → w'.heap[b]? = w.heap[b]? ∧ F' b = F b) :
    OwnerP B w' F' tok' k t a n cap s sz := by
  obtain ⟨rfl, ⟨vals, hv⟩, hk, hf⟩ := h
  refine ⟨rfl, ⟨vals, ?_⟩, by rw [ht, hk], fun b hb' => ?_⟩
  · refine ⟨hv.1, ?_⟩
    rcases hv.2 with hn | ⟨g, cap', cur, he, hB, hg, rest⟩
    · exact Or.inl hn
    · refine Or.inr ⟨g, cap', cur, he, hB, ?_, rest⟩
      simp only [Value.slice.injEq] at he
      rw [he.1] at hk
      rw [(hb g hk).1]; exact hg
  · rw [(hb b (by rw [hk, hb'])).2]; exact hf b hb'

theorem Rep.later {B : Nat} {w w' : World} {F F' : Nat → Nat} {tok tok' : List (Option Nat)} {fr fr' : Fr} (L : Later w F tok fr w' F' tok' fr')
    {x : AV} {v : Value} (h : Rep B w F tok fr x v) : Rep B w' F' tok' fr' x v := by
  induction h with
  | any v => exact .any v
  | val v => exact .val v
  | str s => exact .str s
  | list o xs a cap sz b off vs hcap ha hsz hF hc hr ho ih =>
    refine .list o xs a cap sz b off vs hcap ha hsz (fun hx => Nat.le_trans (hF hx) (L.le b)) (fun i e j c hi hj => ?_) ih (fun k hk => ?_)
    · have hin := getElem?_lt hi
      have hjn := getElem?_lt hj
      have hne : xs ≠ [] := by intro h0; subst h0; simp at hin
      rw [hsz e (List.mem_of_getElem? hi)] at hjn
      rw [L.cell b _ (idx_lt hin hjn (hF hne))]
      exact hc i e j c hi hj
    · obtain ⟨t, s, n, hf, hle, hown⟩ := ho k hk
      obtain ⟨n', hf', hn', hsame⟩ := L.tok k t s n hf
      refine ⟨t, s, n', hf', Nat.le_trans hle hn', fun he => ?_⟩
      have e1 : n' = n := by omega
      exact (hown (by omega)).same (hsame e1).1 (hsame e1).2
  | agg cs vs h h1 _ ih => exact .agg cs vs h h1 ih
  | tup cs vs h _ ih => exact .tup cs vs h ih
  | rptr cs b off vs hF hc hr ih =>
    refine .rptr cs b off vs (fun hx => Nat.le_trans (hF hx) (L.le b)) (fun j c hj => ?_) ih
    have hjn := getElem?_lt hj
    have hne : cs ≠ [] := by intro h0; subst h0; simp at hjn
    rw [L.cell b _ (by have := hF hne; omega)]
    exact hc j c hj

theorem RepT.later {B : Nat} {w w' : World} {F F' : Nat → Nat} {tok tok' : List (Option Nat)} {fr fr' : Fr} {box box' : List Nat} (L : Later w F tok fr w' F' tok' fr')
    (hb : ∀ (j b : Nat), box[j]? = some b → box'[j]? = some b) {x : AV} {v : Value} (h : RepT B w F tok fr box x v) : RepT B w' F' tok' fr' box' x v := by
  induction h with
  | rep x v h => exact .rep x v (h.later L)
  | bptr j off b h => exact .bptr j off b (hb _ _ h)
  | bsl j n b h => exact .bsl j n b (hb _ _ h)
  | cond g x v _ hn ih => exact .cond g x v ih hn

theorem Later.refl (w : World) (F : Nat → Nat) (tok : List (Option Nat)) (fr : Fr) : Later w F tok fr w F tok fr :=
  ⟨fun _ _ _ => rfl, fun _ => Nat.le_refl _, fun _ _ _ n h => ⟨n, h, Nat.le_refl _, fun _ => ⟨rfl, fun _ _ => ⟨rfl, rfl⟩⟩⟩⟩

section inv
variable {B : Nat} {w : World} {F : Nat → Nat} {tok : List (Option Nat)} {fr : Fr} {box : List Nat}
theorem RepT.val_inv {u v : Value} (h : RepT B w F tok fr box (.val u) v) : v = u := by
  cases h with | rep _ _ h => cases h; rfl
theorem RepT.str_inv {s : Str} {v : Value} (h : RepT B w F tok fr box (.str s) v) : v = mkS s := by
  cases h with | rep _ _ h => cases h; rfl
theorem RepT.list_inv {o : Option Nat} {xs : List (List AV)} {v : Value} (h : RepT B w F tok fr box (.list o xs) v) : Rep B w F tok fr (.list o xs) v := by
  cases h with | rep _ _ h => exact h
theorem RepT.agg_inv {cs : List AV} {v : Value} (h : RepT B w F tok fr box (.agg cs) v) : Rep B w F tok fr (.agg cs) v := by
  cases h with | rep _ _ h => exact h
theorem RepT.tup_inv {cs : List AV} {v : Value} (h : RepT B w F tok fr box (.tup cs) v) : Rep B w F tok fr (.tup cs) v := by
  cases h with | rep _ _ h => exact h
theorem RepT.rptr_inv {cs : List AV} {v : Value} (h : RepT B w F tok fr box (.rptr cs) v) : Rep B w F tok fr (.rptr cs) v := by
  cases h with | rep _ _ h => exact h
theorem RepT.bptr_inv {j off : Nat} {v : Value} (h : RepT B w F tok fr box (.bptr j off) v) : ∃ b, box[j]? = some b ∧ v = .pointer (some ⟨b, off, none⟩) := by
  cases h with
  | rep _ _ h => cases h
  | bptr _ _ b h => exact ⟨b, h, rfl⟩
theorem RepT.bsl_inv {j n : Nat} {v : Value} (h : RepT B w F tok fr box (.bsl j n) v) : ∃ b, box[j]? = some b ∧ v = .slice (some ⟨b, 0, none⟩) n n := by
  cases h with
  | rep _ _ h => cases h
  | bsl _ _ b h => exact ⟨b, h, rfl⟩
theorem RepT.cond_inv {g : Bool} {x : AV} {v : Value} (h : RepT B w F tok fr box (.cond g x) v) : (g = true → RepT B w F tok fr box x v) ∧ (g = false → v = undef) := by
  cases h with
  | rep _ _ h => cases h
  | cond _ _ _ h hn => exact ⟨h, hn⟩
end inv
end Abs
end Go.Proofs.Ytnpjjbolonbndaa
