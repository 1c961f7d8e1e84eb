/-
  What abstract values say of Go's values in a world ('Rep'), and that they go on saying it while memory grows.
-/
import Derived.Test.YtamcaplpgmloiaaAbs
namespace Go.Proofs.Ytamcaplpgmloiaa
namespace Abs
open Go.RowKit

/-- The slice is the one whose length its token has: it owns its block. -/
def OwnerP (B : Nat) (w : World) (F : Nat → Nat) (tok : List (Option Nat)) (k t : Nat) (a : Option Addr) (n cap sz sz' : Nat) : Prop :=
  sz = sz' ∧ (∃ vals, w.ownsRow B t sz (.slice a n cap) n vals) ∧ tok[k]? = some (a.map (·.block)) ∧ (∀ b, a.map (·.block) = some b → F b = n * sz)

/-- where a box lies: a block and how many elements fit, or nil -/
inductive BId where
  | blk (b cap : Nat)
  | nil

inductive Rep (B : Nat) (w : World) (F : Nat → Nat) (tok : List (Option Nat)) (fr : Fr) : List BId → AV → Value → Prop
  | any {box : List BId} (v : Value) : Rep B w F tok fr box .any v
  | val {box : List BId} (v : Value) : Rep B w F tok fr box (.val v) v
  | str {box : List BId} (s : Str) : Rep B w F tok fr box (.str s) (mkS s)
  | list {box : List BId} (o : Option Nat) (xs : List (List AV)) (a : Option Addr) (cap sz b off : Nat) (vs : Nat → Nat → Value)
      (hcap : xs.length ≤ cap)
      (ha : xs ≠ [] → a = some ⟨b, off, none⟩)
      (hsz : ∀ e ∈ xs, e.length = sz)
      (hF : xs ≠ [] → off + xs.length * sz ≤ F b)
      (hc : ∀ i e j c, xs[i]? = some e → e[j]? = some c → w.cell? ⟨b, off + i * sz + j, none⟩ = some (vs i j) ∧ (vs i j).oneCell' = true)
      (hr : ∀ i e j c, xs[i]? = some e → e[j]? = some c → Rep B w F tok fr [] c (vs i j))
      (ho : ∀ k, o = some k → ∃ t s n : Nat, fr[k]? = some (t, s, n) ∧ xs.length ≤ n ∧ (xs.length = n → OwnerP B w F tok k t a xs.length cap s sz)) :
      Rep B w F tok fr box (.list o xs) (.slice a xs.length cap)
  | agg {box : List BId} (cs : List AV) (vs : Array Value) (h : cs.length = vs.size) (h1 : ∀ i, i < vs.size → (vs.getD i undef).oneCell' = true)
      (hr : ∀ i c, cs[i]? = some c → Rep B w F tok fr box c (vs.getD i undef)) : Rep B w F tok fr box (.agg cs) (.agg vs)
  | tup {box : List BId} (cs : List AV) (vs : Array Value) (h : cs.length = vs.size)
      (hr : ∀ i c, cs[i]? = some c → Rep B w F tok fr box c (vs.getD i undef)) : Rep B w F tok fr box (.tup cs) (.tuple vs)
  | rptr {box : List BId} (cs : List AV) (b off : Nat) (vs : Nat → Value)
      (hF : cs ≠ [] → off + cs.length ≤ F b)
      (hc : ∀ j c, cs[j]? = some c → w.cell? ⟨b, off + j, none⟩ = some (vs j) ∧ (vs j).oneCell' = true)
      (hr : ∀ j c, cs[j]? = some c → Rep B w F tok fr [] c (vs j)) : Rep B w F tok fr box (.rptr cs) (.pointer (some ⟨b, off, none⟩))
  | bptr {box : List BId} (j off b cap : Nat) (h : box[j]? = some (.blk b cap)) : Rep B w F tok fr box (.bptr j off) (.pointer (some ⟨b, off, none⟩))
  | bsl {box : List BId} (j n b cap : Nat) (h : box[j]? = some (.blk b cap)) (hn : n ≤ cap) : Rep B w F tok fr box (.bsl j n) (.slice (some ⟨b, 0, none⟩) n cap)
  | bnil {box : List BId} (j : Nat) (h : box[j]? = some .nil) : Rep B w F tok fr box (.bsl j 0) (.slice none 0 0)
  | clo {box : List BId} (f : Nat) (first caps : List AV) (vf vc : Array Value) (h1 : first.length = vf.size) (h2 : caps.length = vc.size)
      (hr1 : ∀ i c, first[i]? = some c → Rep B w F tok fr box c (vf.getD i undef)) (hr2 : ∀ i c, caps[i]? = some c → Rep B w F tok fr box c (vc.getD i undef)) :
      Rep B w F tok fr box (.clo f first caps) (.func (.func f) vf vc)

inductive RepT (B : Nat) (w : World) (F : Nat → Nat) (tok : List (Option Nat)) (fr : Fr) (box : List BId) : AV → Value → Prop
  | rep (x : AV) (v : Value) (h : Rep B w F tok fr box x v) : RepT B w F tok fr box x v
  | cond (g : Bool) (x : AV) (v : Value) (h : g = true → RepT B w F tok fr box x v) (hn : g = false → v = undef) : RepT B w F tok fr box (.cond g x) v

structure Later (w : World) (F : Nat → Nat) (tok : List (Option Nat)) (fr : Fr) (w' : World) (F' : Nat → Nat) (tok' : List (Option Nat)) (fr' : Fr) : Prop where
  cell : ∀ b i, i < F b → w'.cell? ⟨b, i, none⟩ = w.cell? ⟨b, i, none⟩
  le : ∀ b, F b ≤ F' b
  tok : ∀ (k t s n : Nat), fr[k]? = some (t, s, n) → ∃ n' : Nat, fr'[k]? = some (t, s, n') ∧ n ≤ n' ∧
    (n' = n → tok'[k]? = tok[k]? ∧ ∀ b, tok[k]? = some (some b) → w'.heap[b]? = w.heap[b]? ∧ F' b = F b)

theorem idx_lt {off i j sz n m : Nat} (hi : i < n) (hj : j < sz) (h : off + n * sz ≤ m) : off + i * sz + j < m := by
  have : (i + 1) * sz ≤ n * sz := Nat.mul_le_mul_right _ hi
  rw [Nat.add_mul] at this
  omega

theorem getElem?_lt {α : Type} {l : List α} {i : Nat} {x : α} (h : l[i]? = some x) : i < l.length := (List.getElem?_eq_some_iff.1 h).1

theorem OwnerP.same {B : Nat} {w w' : World} {F F' : Nat → Nat} {tok tok' : List (Option Nat)} {k t : Nat} {a : Option Addr} {n cap s sz : Nat}
    (h : OwnerP B w F tok k t a n cap s sz) (ht : tok'[k]? = tok[k]?) (hb : ∀ b, tok[k]? = some (some b) → w'.heap[b]? = w.heap[b]? ∧ F' b = F b) :
    OwnerP B w' F' tok' k t a n cap s sz := by
  obtain ⟨rfl, ⟨vals, hv⟩, hk, hf⟩ := h
  refine ⟨rfl, ⟨vals, ?_⟩, by rw [ht, hk], fun b hb' => ?_⟩
  · refine ⟨hv.1, ?_⟩
    rcases hv.2 with hn | ⟨g, cap', cur, he, hB, hg, rest⟩
    · exact Or.inl hn
    · refine Or.inr ⟨g, cap', cur, he, hB, ?_, rest⟩
      simp only [Value.slice.injEq] at he
      rw [he.1] at hk
      rw [(hb g hk).1]; exact hg
  · rw [(hb b (by rw [hk, hb'])).2]; exact hf b hb'

theorem Rep.later {B : Nat} {w w' : World} {F F' : Nat → Nat} {tok tok' : List (Option Nat)} {fr fr' : Fr} {box box' : List BId} (L : Later w F tok fr w' F' tok' fr')
    (hb : ∀ (j : Nat) d, box[j]? = some d → box'[j]? = some d) {x : AV} {v : Value} (h : Rep B w F tok fr box x v) : Rep B w' F' tok' fr' box' x v := by
  induction h generalizing box' with
  | any v => exact .any v
  | val v => exact .val v
  | str s => exact .str s
  | list o xs a cap sz b off vs hcap ha hsz hF hc hr ho ih =>
    refine .list o xs a cap sz b off vs hcap ha hsz (fun hx => Nat.le_trans (hF hx) (L.le b)) (fun i e j c hi hj => ?_) (fun i e j c hi hj => ih i e j c hi hj (by simp)) (fun k hk => ?_)
    · have hin := getElem?_lt hi
      have hjn := getElem?_lt hj
      have hne : xs ≠ [] := by intro h0; subst h0; simp at hin
      rw [hsz e (List.mem_of_getElem? hi)] at hjn
      rw [L.cell b _ (idx_lt hin hjn (hF hne))]
      exact hc i e j c hi hj
    · obtain ⟨t, s, n, hf, hle, hown⟩ := ho k hk
      obtain ⟨n', hf', hn', hsame⟩ := L.tok k t s n hf
      refine ⟨t, s, n', hf', Nat.le_trans hle hn', fun he => ?_⟩
      have e1 : n' = n := by omega
      exact (hown (by omega)).same (hsame e1).1 (hsame e1).2
  | agg cs vs h h1 _ ih => exact .agg cs vs h h1 (fun i c hc => ih i c hc hb)
  | tup cs vs h _ ih => exact .tup cs vs h (fun i c hc => ih i c hc hb)
  | rptr cs b off vs hF hc hr ih =>
    refine .rptr cs b off vs (fun hx => Nat.le_trans (hF hx) (L.le b)) (fun j c hj => ?_) (fun j c hj => ih j c hj (by simp))
    have hjn := getElem?_lt hj
    have hne : cs ≠ [] := by intro h0; subst h0; simp at hjn
    rw [L.cell b _ (by have := hF hne; omega)]
    exact hc j c hj
  | bptr j off b cap h => exact .bptr j off b cap (hb _ _ h)
  | bsl j n b cap h hn => exact .bsl j n b cap (hb _ _ h) hn
  | bnil j h => exact .bnil j (hb _ _ h)
  | clo f first caps vf vc h1 h2 _ _ ih1 ih2 => exact .clo f first caps vf vc h1 h2 (fun i c hc => ih1 i c hc hb) (fun i c hc => ih2 i c hc hb)

theorem RepT.later {B : Nat} {w w' : World} {F F' : Nat → Nat} {tok tok' : List (Option Nat)} {fr fr' : Fr} {box box' : List BId} (L : Later w F tok fr w' F' tok' fr')
    (hb : ∀ (j : Nat) d, box[j]? = some d → box'[j]? = some d) {x : AV} {v : Value} (h : RepT B w F tok fr box x v) : RepT B w' F' tok' fr' box' x v := by
  induction h with
  | rep x v h => exact .rep x v (h.later L hb)
  | cond g x v _ hn ih => exact .cond g x v ih hn

theorem Later.refl (w : World) (F : Nat → Nat) (tok : List (Option Nat)) (fr : Fr) : Later w F tok fr w F tok fr :=
  ⟨fun _ _ _ => rfl, fun _ => Nat.le_refl _, fun _ _ _ n h => ⟨n, h, Nat.le_refl _, fun _ => ⟨rfl, fun _ _ => ⟨rfl, rfl⟩⟩⟩⟩

/-- no address of a box in it -/
def noRef : AV → Bool
  | .bptr _ _ => false
  | .bsl _ _ => false
  | .agg cs => noRefL cs
  | .tup cs => noRefL cs
  | .clo _ a b => noRefL a && noRefL b
  | .cond _ _ => false
  | .any => true
  | .val _ => true
  | .str _ => true
  | .list _ _ => true
  | .rptr _ => true
where noRefL : List AV → Bool
  | [] => true
  | c :: cs => noRef c && noRefL cs
theorem noRefL_all : ∀ (cs : List AV), noRef.noRefL cs = cs.all noRef
  | [] => rfl
  | c :: cs => by rw [noRef.noRefL, noRefL_all cs]; rfl

theorem Rep.anyBox {B : Nat} {w : World} {F : Nat → Nat} {tok : List (Option Nat)} {fr : Fr} {box : List BId} (box' : List BId) {x : AV} {v : Value} (h : Rep B w F tok fr box x v) (hn : noRef x = true) : Rep B w F tok fr box' x v := by
  induction h with
  | any v => exact .any v
  | val v => exact .val v
  | str s => exact .str s
  | list o xs a cap sz b off vs hcap ha hsz hF hc hr ho => exact .list o xs a cap sz b off vs hcap ha hsz hF hc hr ho
  | agg cs vs h h1 _ ih =>
    rw [noRef, noRefL_all] at hn
    exact .agg cs vs h h1 (fun i c hc => ih i c hc (List.all_eq_true.1 hn c (List.mem_of_getElem? hc)))
  | tup cs vs h _ ih =>
    rw [noRef, noRefL_all] at hn
    exact .tup cs vs h (fun i c hc => ih i c hc (List.all_eq_true.1 hn c (List.mem_of_getElem? hc)))
  | rptr cs b off vs hF hc hr => exact .rptr cs b off vs hF hc hr
  | bptr => cases hn
  | bsl => cases hn
  | bnil => cases hn
  | clo f first caps vf vc h1 h2 _ _ ih1 ih2 =>
    rw [noRef, noRefL_all, noRefL_all, Bool.and_eq_true] at hn
    exact .clo f first caps vf vc h1 h2 (fun i c hc => ih1 i c hc (List.all_eq_true.1 hn.1 c (List.mem_of_getElem? hc))) (fun i c hc => ih2 i c hc (List.all_eq_true.1 hn.2 c (List.mem_of_getElem? hc)))

section inv
variable {B : Nat} {w : World} {F : Nat → Nat} {tok : List (Option Nat)} {fr : Fr} {box : List BId}
theorem RepT.plain {x : AV} {v : Value} (h : RepT B w F tok fr box x v) (h1 : ∀ g y, x ≠ .cond g y) : Rep B w F tok fr box x v := by
  cases h with
  | rep _ _ h => exact h
  | cond g y => exact absurd rfl (h1 g y)
theorem Rep.val_inv {u v : Value} (h : Rep B w F tok fr box (.val u) v) : v = u := by cases h; rfl
theorem RepT.val_inv {u v : Value} (h : RepT B w F tok fr box (.val u) v) : v = u := by
  cases h with | rep _ _ h => cases h; rfl
theorem RepT.str_inv {s : Str} {v : Value} (h : RepT B w F tok fr box (.str s) v) : v = mkS s := by
  cases h with | rep _ _ h => cases h; rfl
theorem RepT.list_inv {o : Option Nat} {xs : List (List AV)} {v : Value} (h : RepT B w F tok fr box (.list o xs) v) : Rep B w F tok fr box (.list o xs) v := by
  cases h with | rep _ _ h => exact h
theorem RepT.agg_inv {cs : List AV} {v : Value} (h : RepT B w F tok fr box (.agg cs) v) : Rep B w F tok fr box (.agg cs) v := by
  cases h with | rep _ _ h => exact h
theorem RepT.tup_inv {cs : List AV} {v : Value} (h : RepT B w F tok fr box (.tup cs) v) : Rep B w F tok fr box (.tup cs) v := by
  cases h with | rep _ _ h => exact h
theorem RepT.rptr_inv {cs : List AV} {v : Value} (h : RepT B w F tok fr box (.rptr cs) v) : Rep B w F tok fr box (.rptr cs) v := by
  cases h with | rep _ _ h => exact h
theorem RepT.clo_inv {f : Nat} {xs ys : List AV} {v : Value} (h : RepT B w F tok fr box (.clo f xs ys) v) : Rep B w F tok fr box (.clo f xs ys) v := by
  cases h with | rep _ _ h => exact h
theorem Rep.bptr_inv {j off : Nat} {v : Value} (h : Rep B w F tok fr box (.bptr j off) v) : ∃ b cap, box[j]? = some (.blk b cap) ∧ v = .pointer (some ⟨b, off, none⟩) := by
  cases h with
  | bptr _ _ b cap h => exact ⟨b, cap, h, rfl⟩
theorem RepT.bptr_inv {j off : Nat} {v : Value} (h : RepT B w F tok fr box (.bptr j off) v) : ∃ b cap, box[j]? = some (.blk b cap) ∧ v = .pointer (some ⟨b, off, none⟩) := by
  cases h with | rep _ _ h => exact h.bptr_inv
theorem Rep.bsl_inv {j n : Nat} {v : Value} (h : Rep B w F tok fr box (.bsl j n) v) :
    (∃ b cap, box[j]? = some (.blk b cap) ∧ n ≤ cap ∧ v = .slice (some ⟨b, 0, none⟩) n cap) ∨ (box[j]? = some .nil ∧ n = 0 ∧ v = .slice none 0 0) := by
  cases h with
  | bsl _ _ b cap h hn => exact .inl ⟨b, cap, h, hn, rfl⟩
  | bnil _ h => exact .inr ⟨h, rfl, rfl⟩
theorem RepT.bsl_inv {j n : Nat} {v : Value} (h : RepT B w F tok fr box (.bsl j n) v) :
    (∃ b cap, box[j]? = some (.blk b cap) ∧ n ≤ cap ∧ v = .slice (some ⟨b, 0, none⟩) n cap) ∨ (box[j]? = some .nil ∧ n = 0 ∧ v = .slice none 0 0) := by
  cases h with | rep _ _ h => exact h.bsl_inv
theorem RepT.cond_inv {g : Bool} {x : AV} {v : Value} (h : RepT B w F tok fr box (.cond g x) v) : (g = true → RepT B w F tok fr box x v) ∧ (g = false → v = undef) := by
  cases h with
  | rep _ _ h => cases h
  | cond _ _ _ h hn => exact ⟨h, hn⟩
end inv
end Abs
end Go.Proofs.Ytamcaplpgmloiaa
