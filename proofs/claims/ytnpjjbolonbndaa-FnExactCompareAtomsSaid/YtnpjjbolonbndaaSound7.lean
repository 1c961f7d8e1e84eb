/-
  What a call of a function hands back ('ARet'), and the steps from one state to the next.
-/
import Derived.Test.YtnpjjbolonbndaaSound6
namespace Go.Proofs.Ytnpjjbolonbndaa
namespace Abs
open Go.RowKit

/-- Called with these, function f hands back r, whose own slices have the lengths frs, and turns nothing that was there. -/
def ARet (P : Program) (f : Nat) (args : List AV) (r : AV) (frs : Fr) : Prop :=
  ∀ (w : World) (F : Nat → Nat) (vs : Array Value), (∀ b, w.heap.size ≤ b → F b = 0) → Both (Rep w.heap.size w F [] []) args vs.toList →
    Calls P f vs w fun e w' => ∃ (v : Value) (F' : Nat → Nat) (tok : List (Option Nat)), e = .returned v ∧ Below w.heap.size w w' ∧ (∀ b, b < w.heap.size → F' b = F b) ∧
      (∀ b, w'.heap.size ≤ b → F' b = 0) ∧ tok.length = frs.length ∧ (∀ (k b : Nat), tok[k]? = some (some b) → w.heap.size ≤ b ∧ b < w'.heap.size) ∧
      (∀ (k l b : Nat), tok[k]? = some (some b) → tok[l]? = some (some b) → k = l) ∧ Rep w.heap.size w' F' tok frs r v

theorem mapTL_eq (f : Nat → Option Nat) : ∀ cs, mapTL f cs = cs.map (mapT f)
  | [] => rfl
  | c :: cs => by rw [mapTL, mapTL_eq f cs]; rfl
theorem mapTLL_eq (f : Nat → Option Nat) : ∀ xs, mapTLL f xs = xs.map fun e => e.map (mapT f)
  | [] => rfl
  | c :: cs => by rw [mapTLL, mapTLL_eq f cs, mapTL_eq]; rfl

theorem mapTLL_get {f : Nat → Option Nat} {xs : List (List AV)} {i j : Nat} {e : List AV} {c : AV} (hi : (mapTLL f xs)[i]? = some e) (hj : e[j]? = some c) :
    ∃ e' c', xs[i]? = some e' ∧ e'[j]? = some c' ∧ e = e'.map (mapT f) ∧ c = mapT f c' := by
  rw [mapTLL_eq, List.getElem?_map] at hi
  obtain ⟨e', he, rfl⟩ := Option.map_eq_some_iff.1 hi
  rw [List.getElem?_map] at hj
  obtain ⟨c', hc, rfl⟩ := Option.map_eq_some_iff.1 hj
  exact ⟨e', c', he, hc, rfl, rfl⟩

theorem mapTL_get {f : Nat → Option Nat} {cs : List AV} {j : Nat} {c : AV} (hj : (mapTL f cs)[j]? = some c) : ∃ c', cs[j]? = some c' ∧ c = mapT f c' := by
  rw [mapTL_eq, List.getElem?_map] at hj
  obtain ⟨c', hc, rfl⟩ := Option.map_eq_some_iff.1 hj
  exact ⟨c', hc, rfl⟩

theorem length_mapTLL (f : Nat → Option Nat) (xs : List (List AV)) : (mapTLL f xs).length = xs.length := by rw [mapTLL_eq]; simp
theorem length_mapTL (f : Nat → Option Nat) (xs : List AV) : (mapTL f xs).length = xs.length := by rw [mapTL_eq]; simp

/-- A reading goes over to other tokens. -/
theorem Rep.mapT {B B' : Nat} {w : World} {F : Nat → Nat} {tok tok' : List (Option Nat)} {fr fr' : Fr} (f : Nat → Option Nat)
    (hf : ∀ k l, f k = some l → ∀ (t s n : Nat), fr[k]? = some (t, s, n) → fr'[l]? = some (t, s, n) ∧ tok'[l]? = tok[k]?) (hB : ∀ k l, f k = some l → B' ≤ B)
    {x : AV} {v : Value} (h : Rep B w F tok fr x v) : Rep B' w F tok' fr' (Abs.mapT f x) v := by
  induction h with
  | any v => exact .any v
  | val v => exact .val v
  | str s => exact .str s
  | list o xs a cap sz b off vs hcap ha hsz hF hc hr ho ih =>
    have hne : mapTLL f xs ≠ [] → xs ≠ [] := by rintro h rfl; exact h rfl
    show Rep B' w F tok' fr' (.list (o.bind f) (mapTLL f xs)) (.slice a xs.length cap)
    rw [← length_mapTLL f xs]
    refine .list (o.bind f) (mapTLL f xs) a cap sz b off vs (by rw [length_mapTLL]; exact hcap) (fun h => ha (hne h)) (fun e he => ?_) (fun h => by rw [length_mapTLL]; exact hF (hne h)) (fun i e j c hi hj => ?_) (fun i e j c hi hj => ?_) (fun l hl => ?_)
    · rw [mapTLL_eq] at he
      obtain ⟨e', he', rfl⟩ := List.mem_map.1 he
      rw [List.length_map]; exact hsz e' he'
    · obtain ⟨e', c', h1, h2, _, _⟩ := mapTLL_get hi hj
      exact hc i e' j c' h1 h2
    · obtain ⟨e', c', h1, h2, _, rfl⟩ := mapTLL_get hi hj
      exact ih i e' j c' h1 h2
    · obtain ⟨k, rfl, hk⟩ := Option.bind_eq_some_iff.1 hl
      obtain ⟨t, s, n, hfr, hle, hown⟩ := ho k rfl
      obtain ⟨h1, h2⟩ := hf k l hk t s n hfr
      refine ⟨t, s, n, h1, by rw [length_mapTLL]; exact hle, fun he => ?_⟩
      rw [length_mapTLL] at he ⊢
      obtain ⟨e1, ⟨vals, hv⟩, hk', hFb⟩ := hown he
      refine ⟨e1, ⟨vals, hv.1, ?_⟩, by rw [h2]; exact hk', hFb⟩
      rcases hv.2 with hn | ⟨g, cap', cur, he', hBg, rest⟩
      · exact Or.inl hn
      · exact Or.inr ⟨g, cap', cur, he', Nat.le_trans (hB k l hk) hBg, rest⟩
  | agg cs vs h h1 _ ih =>
    refine .agg _ _ (by rw [length_mapTL]; exact h) h1 (fun i c hc => ?_)
    obtain ⟨c', h2, rfl⟩ := mapTL_get hc
    exact ih i c' h2
  | tup cs vs h _ ih =>
    refine .tup _ _ (by rw [length_mapTL]; exact h) (fun i c hc => ?_)
    obtain ⟨c', h2, rfl⟩ := mapTL_get hc
    exact ih i c' h2
  | rptr cs b off vs hF hc hr ih =>
    refine .rptr _ b off vs (fun h => by rw [length_mapTL]; exact hF (by rintro rfl; exact h rfl)) (fun j c hj => ?_) (fun j c hj => ?_)
    · obtain ⟨c', h2, _⟩ := mapTL_get hj
      exact hc j c' h2
    · obtain ⟨c', h2, rfl⟩ := mapTL_get hj
      exact ih j c' h2

theorem RepT.erase {B B' : Nat} {w : World} {F : Nat → Nat} {tok : List (Option Nat)} {fr : Fr} {box : List Nat} {x : AV} {v : Value} (h : RepT B w F tok fr box x v) : Rep B' w F [] [] (Abs.erase x) v := by
  cases h with
  | rep _ _ h => exact h.mapT _ (fun _ _ h => by cases h) (fun _ _ h => by cases h)
  | bptr j off b h => exact .any _
  | bsl j n b h => exact .any _
  | cond g x v h hn => exact .any _

section
variable {n : Nat} {w0 : World} {F0 : Nat → Nat} {g : G} {e : Env} {bx : List ABox} {f : Fr} {a : Act} {w : World}

theorem later_alloc (hs : Sim n w0 F0 g ⟨e, bx, f⟩ a w) (o : Obj) : Later w g.F g.tok f (w.alloc o) g.F g.tok f :=
  later_below hs ((Below.refl _ _).alloc (Nat.le_refl _) o)

theorem getElem?_append_one {α : Type} {l : List α} {x y : α} {i : Nat} (h : (l ++ [x])[i]? = some y) : l[i]? = some y ∨ (i = l.length ∧ y = x) := by
  rw [List.getElem?_append] at h
  split at h
  · exact .inl h
  · rename_i hi
    rw [List.getElem?_singleton] at h
    split at h
    · cases h; exact .inr ⟨by omega, rfl⟩
    · cases h

theorem Sim.newBox (hs : Sim n w0 F0 g ⟨e, bx, f⟩ a w) (o : Obj) (x : ABox) (hx : BoxRep w0.heap.size (w.alloc o) g.F g.tok f w.heap.size x) :
    Sim n w0 F0 { g with box := g.box ++ [w.heap.size] } ⟨e, bx ++ [x], f⟩ a (w.alloc o) := by
  have hb : Below w.heap.size w (w.alloc o) := (Below.refl _ _).alloc (Nat.le_refl _) o
  have L := later_alloc hs o
  have hsz : (w.alloc o).heap.size = w.heap.size + 1 := by simp
  exact {
    defers := hs.defers, size := hs.size
    env := hs.env.later L (fun j b h => by rw [List.getElem?_append_left (getElem?_lt h)]; exact h)
    below := hs.below.trans (hb.mono hs.below.size)
    old := hs.old
    out := fun b h => hs.out b (by omega)
    boxlen := by simp [hs.boxlen]
    boxin := fun j b h => by
      rcases getElem?_append_one h with h | ⟨_, rfl⟩
      · have := hs.boxin j b h; exact ⟨this.1, by omega, this.2.2⟩
      · exact ⟨hs.below.size, by omega, hs.out _ (Nat.le_refl _)⟩
    boxrep := fun j b y h hy => by
      rcases getElem?_append_one h with h | ⟨rfl, rfl⟩
      · have hj := getElem?_lt h
        have hy' : bx[j]? = some y := by
          rcases getElem?_append_one hy with hy | ⟨h1, _⟩
          · exact hy
          · have := hs.boxlen; simp only at this; omega
        exact (hs.boxrep j b y h hy').later L (hb.block b (hs.boxin j b h).2.1)
      · rcases getElem?_append_one hy with hy | ⟨_, rfl⟩
        · have := getElem?_lt hy; have := hs.boxlen; simp only at this; omega
        · exact hx
    boxinj := fun i j b hi hj => by
      rcases getElem?_append_one hi with h1 | ⟨h1, h2⟩ <;> rcases getElem?_append_one hj with h3 | ⟨h3, h4⟩
      · exact hs.boxinj i j b h1 h3
      · have := (hs.boxin i b h1).2.1; omega
      · have := (hs.boxin j b h3).2.1; omega
      · omega
    toklen := hs.toklen
    tokin := fun k b h => by
      have := hs.tokin k b h
      refine ⟨this.1, by omega, fun hm => ?_⟩
      rcases List.mem_append.1 hm with hm | hm
      · exact this.2.2 hm
      · simp at hm; omega
    tokinj := hs.tokinj }

/-- F with m at block b -/
def setF (F : Nat → Nat) (b m : Nat) : Nat → Nat := fun c => if c = b then m else F c

theorem later_tok (hs : Sim n w0 F0 g ⟨e, bx, f⟩ a w) (o : Obj) (m : Nat) (y : Option Nat) (z : Nat × Nat × Nat) :
    Later w g.F g.tok f (w.alloc o) (setF g.F w.heap.size m) (g.tok ++ [y]) (f ++ [z]) := by
  have L := later_alloc hs o
  have h0 := hs.out w.heap.size (Nat.le_refl _)
  refine ⟨L.cell, fun b => ?_, fun k t s n hk => ?_⟩
  · unfold setF; split
    · rename_i h; rw [h, h0]; exact Nat.zero_le _
    · exact Nat.le_refl _
  · have hlt := getElem?_lt hk
    refine ⟨n, by rw [List.getElem?_append_left hlt]; exact hk, Nat.le_refl _, fun _ => ⟨by rw [List.getElem?_append_left (by have := hs.toklen; simp only at this; omega)], fun b hb => ?_⟩⟩
    have h1 := (hs.tokin k b hb).2.1
    refine ⟨Below.heap_alloc _ _ _ h1, ?_⟩
    unfold setF; rw [if_neg (by omega)]

/-- a new slice of the call's own -/
theorem Sim.newTok (hs : Sim n w0 F0 g ⟨e, bx, f⟩ a w) (o : Obj) (m : Nat) (z : Nat × Nat × Nat) :
    Sim n w0 F0 { F := setF g.F w.heap.size m, tok := g.tok ++ [some w.heap.size], box := g.box } ⟨e, bx, f ++ [z]⟩ a (w.alloc o) := by
  have hb : Below w.heap.size w (w.alloc o) := (Below.refl _ _).alloc (Nat.le_refl _) o
  have L := later_tok hs o m (some w.heap.size) z
  have hsz : (w.alloc o).heap.size = w.heap.size + 1 := by simp
  exact {
    defers := hs.defers, size := hs.size
    env := hs.env.later L (fun _ _ h => h)
    below := hs.below.trans (hb.mono hs.below.size)
    old := fun b h => by have := hs.below.size; simp only [setF]; rw [if_neg (by omega)]; exact hs.old b h
    out := fun b h => by simp only [setF]; rw [if_neg (by omega)]; exact hs.out b (by omega)
    boxlen := hs.boxlen
    boxin := fun j b h => by
      have := hs.boxin j b h
      exact ⟨this.1, by omega, by simp only [setF]; rw [if_neg (by omega)]; exact this.2.2⟩
    boxrep := fun j b y h hy => (hs.boxrep j b y h hy).later L (hb.block b (hs.boxin j b h).2.1)
    boxinj := hs.boxinj
    toklen := by have := hs.toklen; simp only at this; simp [this]
    tokin := fun k b h => by
      rcases getElem?_append_one h with h | ⟨_, h⟩
      · have := hs.tokin k b h; exact ⟨this.1, by omega, this.2.2⟩
      · cases h
        refine ⟨hs.below.size, by omega, fun hm => ?_⟩
        obtain ⟨j, hj⟩ := List.getElem?_of_mem hm
        have := (hs.boxin j _ hj).2.1; omega
    tokinj := fun i j b hi hj => by
      rcases getElem?_append_one hi with h1 | ⟨h1, h2⟩ <;> rcases getElem?_append_one hj with h3 | ⟨h3, h4⟩
      · exact hs.tokinj i j b h1 h3
      · cases h4; have := (hs.tokin i _ h1).2.1; omega
      · cases h2; have := (hs.tokin j _ h3).2.1; omega
      · omega }

/-- a token that stands for nil -/
theorem Sim.nilTok (hs : Sim n w0 F0 g ⟨e, bx, f⟩ a w) (z : Nat × Nat × Nat) :
    Sim n w0 F0 { F := g.F, tok := g.tok ++ [none], box := g.box } ⟨e, bx, f ++ [z]⟩ a w := by
  have L : Later w g.F g.tok f w g.F (g.tok ++ [none]) (f ++ [z]) := by
    refine ⟨fun _ _ _ => rfl, fun _ => Nat.le_refl _, fun k t s n hk => ?_⟩
    have hlt := getElem?_lt hk
    exact ⟨n, by rw [List.getElem?_append_left hlt]; exact hk, Nat.le_refl _, fun _ => ⟨by rw [List.getElem?_append_left (by have := hs.toklen; simp only at this; omega)], fun b hb => ⟨rfl, rfl⟩⟩⟩
  exact { hs with
    env := hs.env.later L (fun _ _ h => h)
    boxrep := fun j b y h hy => (hs.boxrep j b y h hy).later L rfl
    toklen := by have := hs.toklen; simp only at this; simp [this]
    tokin := fun k b h => by
      rcases getElem?_append_one h with h | ⟨_, h⟩
      · exact hs.tokin k b h
      · cases h
    tokinj := fun i j b hi hj => by
      rcases getElem?_append_one hi with h1 | ⟨h1, h2⟩ <;> rcases getElem?_append_one hj with h3 | ⟨h3, h4⟩
      · exact hs.tokinj i j b h1 h3
      · cases h4
      · cases h2
      · omega }
end
end Abs
end Go.Proofs.Ytnpjjbolonbndaa
