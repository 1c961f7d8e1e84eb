/-
  What a call of a function hands back ('ARet', 'ORet', 'TRet'), and the steps from one state to the next.
-/
import Derived.Test.YtamcaplpgmloiaaSound6
namespace Go.Proofs.Ytamcaplpgmloiaa
namespace Abs
variable {mo : Bool}
open Go.RowKit

/-- a function with Go text -/
def okFn (P : Program) (f : Nat) : Bool := match P.funcs[f]? with | some fn => !(fn.name == "runtime.NumGoroutine") && fn.body.isSome | none => false

/-- Called with these, function f hands back r, whose own slices have the lengths frs, and turns nothing that was there. -/
def ARet (mo : Bool) (P : Program) (f : Nat) (args : List AV) (r : AV) (frs : Fr) : Prop :=
  okFn P f = true ∧ ∀ (w : World) (F : Nat → Nat) (vs : Array Value), (∀ b, w.heap.size ≤ b → F b = 0) → Both (Rep w.heap.size w F [] [] []) args vs.toList →
    Calls P f vs w fun e w' => ∃ (v : Value) (F' : Nat → Nat) (tok : List (Option Nat)) (box : List BId), e = .returned v ∧ Bel mo w.heap.size w w' ∧ (∀ b, b < w.heap.size → F' b = F b) ∧
      (∀ b, w'.heap.size ≤ b → F' b = 0) ∧ tok.length = frs.length ∧ (∀ (k b : Nat), tok[k]? = some (some b) → w.heap.size ≤ b ∧ b < w'.heap.size) ∧
      (∀ (k l b : Nat), tok[k]? = some (some b) → tok[l]? = some (some b) → k = l) ∧ Rep w.heap.size w' F' tok frs box r v

/-- Called with these, function f hands back the tree x, all of it new, and turns nothing that was there. -/
def ORet (mo : Bool) (P : Program) (f : Nat) (args : List AV) (x : Tr) : Prop :=
  okFn P f = true ∧ ∀ (w : World) (F : Nat → Nat) (vs : Array Value), (∀ b, w.heap.size ≤ b → F b = 0) → Both (Rep w.heap.size w F [] [] []) args vs.toList →
    Calls P f vs w fun e w' => ∃ (v : Value) (ds : List Nat), e = .returned v ∧ Bel mo w.heap.size w w' ∧ OwnL w' [x] [v] ds ∧ ds.Nodup ∧ ∀ d ∈ ds, w.heap.size ≤ d ∧ d < w'.heap.size

/-- Called with these, boxes b0 being lent to it, function f hands back r and leaves b1 in the boxes. -/
def TRet (mo : Bool) (P : Program) (f : Nat) (b0 : List ABox) (args : List AV) (r : AV) (b1 : List ABox) : Prop :=
  okFn P f = true ∧ ∀ (w : World) (F : Nat → Nat) (vs : Array Value) (box0 : List BId), (∀ b, w.heap.size ≤ b → F b = 0) → box0.length = b0.length →
    (∀ (j b c : Nat), box0[j]? = some (.blk b c) → b < w.heap.size ∧ F b = 0) → (∀ (i j b c c' : Nat), box0[i]? = some (.blk b c) → box0[j]? = some (.blk b c') → i = j) →
    BoxesOk w.heap.size w F [] [] box0 b0 → Both (Rep w.heap.size w F [] [] box0) args vs.toList →
    Calls P f vs w fun e w' => ∃ (v : Value) (F' : Nat → Nat), e = .returned v ∧ Keep mo box0 w w' ∧ (∀ b, b < w.heap.size → F' b = F b) ∧ (∀ b, w'.heap.size ≤ b → F' b = 0) ∧
      BoxesOk w.heap.size w' F' [] [] box0 b1 ∧ Rep w.heap.size w' F' [] [] box0 r v

/-- boxes that are not lent are as if they were nil -/
def mask : List ABox → List BId → List BId
  | .dead :: b, _ :: box => .nil :: mask b box
  | _ :: b, d :: box => d :: mask b box
  | _, _ => []
/-- Called with these, boxes b0 being lent to it (those that are not dead), function f hands back something and leaves something in the boxes, perhaps in more of them, of which Φ is known. -/
def GRet (mo : Bool) (P : Program) (f : Nat) (b0 : List ABox) (args : List AV) (Φ : AV → List ABox → Prop) : Prop :=
  okFn P f = true ∧ ∀ (w : World) (F : Nat → Nat) (vs : Array Value) (box0 : List BId), (∀ b, w.heap.size ≤ b → F b = 0) → box0.length = b0.length →
    (∀ (j b c : Nat), box0[j]? = some (.blk b c) → b < w.heap.size ∧ (live b0 j → F b = 0)) →
    (∀ (i j b c c' : Nat), box0[i]? = some (.blk b c) → box0[j]? = some (.blk b c') → live b0 i → live b0 j → i = j) →
    BoxesOk w.heap.size w F [] [] box0 b0 → Both (Rep w.heap.size w F [] [] box0) args vs.toList →
    Calls P f vs w fun e w' => ∃ (v : Value) (F' : Nat → Nat) (box1 : List BId) (r : AV) (b1 : List ABox), Φ r b1 ∧ e = .returned v ∧ Keep mo (mask b0 box0) w w' ∧ (∀ b, b < w.heap.size → F' b = F b) ∧ (∀ b, w'.heap.size ≤ b → F' b = 0) ∧
      (∀ (j : Nat) d, box0[j]? = some d → box1[j]? = some d) ∧ box1.length = b1.length ∧
      (∀ (j b c : Nat), box0.length ≤ j → box1[j]? = some (.blk b c) → (w.heap.size ≤ b ∨ ∃ i : Nat, live b0 i ∧ box0[i]? = some (.blk b c)) ∧ b < w'.heap.size) ∧
      (∀ (j b c : Nat), box1[j]? = some (.blk b c) → live b1 j → (box0.length ≤ j ∨ live b0 j) → F' b = 0) ∧
      (∀ (i j b c c' : Nat), box1[i]? = some (.blk b c) → box1[j]? = some (.blk b c') → live b1 i → live b1 j → (box0.length ≤ i ∨ live b0 i) → (box0.length ≤ j ∨ live b0 j) → i = j) ∧
      (∀ (j : Nat) d x, box1[j]? = some d → b1[j]? = some x → (box0.length ≤ j ∨ live b0 j) → BoxOk w.heap.size w' F' [] [] box1 d x) ∧ Rep w.heap.size w' F' [] [] box1 r v

def ACon (mo : Bool) (P : Program) : Con := ⟨ARet mo P, ORet mo P, TRet mo P, GRet mo P⟩

section
variable {n : Nat} {w0 : World} {F0 : Nat → Nat} {box0 : List BId} {g : G} {e : Env} {bx : List ABox} {f : Fr} {a : Act} {w : World}

theorem later_alloc (hs : Sim mo n w0 F0 box0 g ⟨e, bx, f⟩ a w) (o : Obj) : Later w g.F g.tok f (w.alloc o) g.F g.tok f :=
  later_below hs ((Bel.refl _ _).alloc (Nat.le_refl _) o)

theorem getElem?_append_one {α : Type} {l : List α} {x y : α} {i : Nat} (h : (l ++ [x])[i]? = some y) : l[i]? = some y ∨ (i = l.length ∧ y = x) := by
  rw [List.getElem?_append] at h
  split at h
  · exact .inl h
  · rename_i hi
    rw [List.getElem?_singleton] at h
    split at h
    · cases h; exact .inr ⟨by omega, rfl⟩
    · cases h

theorem live_append {bx cs : List ABox} {j : Nat} (h : j < bx.length) : live (bx ++ cs) j ↔ live bx j := by
  unfold live; rw [List.getElem?_append_left h]

theorem Sim.newBox (hs : Sim mo n w0 F0 box0 g ⟨e, bx, f⟩ a w) (o : Obj) (cap : Nat) (x : ABox) (hx : BoxOk w0.heap.size (w.alloc o) g.F g.tok f (g.box ++ [.blk w.heap.size cap]) (.blk w.heap.size cap) x) :
    Sim mo n w0 F0 box0 { g with box := g.box ++ [.blk w.heap.size cap] } ⟨e, bx ++ [x], f⟩ a (w.alloc o) := by
  have hb : Bel mo w.heap.size w (w.alloc o) := (Bel.refl _ _).alloc (Nat.le_refl _) o
  have L := later_alloc hs o
  have hsz : (w.alloc o).heap.size = w.heap.size + 1 := by simp
  have hbl := hs.boxlen
  simp only at hbl
  have hlt : ∀ {j : Nat} {d : BId}, g.box[j]? = some d → j < bx.length := fun h => by have := getElem?_lt h; omega
  have hext : ∀ (j : Nat) d, g.box[j]? = some d → (g.box ++ [BId.blk w.heap.size cap])[j]? = some d := fun j d h => by rw [List.getElem?_append_left (getElem?_lt h)]; exact h
  exact {
    defers := hs.defers, size := hs.size
    env := hs.env.later L hext
    below := hs.below.trans hb
    old := hs.old
    out := fun b h => hs.out b (by omega)
    boxlen := by simp [hbl]
    boxpre := fun j d h => hext j d (hs.boxpre j d h)
    boxin := fun j b c h => by
      rcases getElem?_append_one h with h | ⟨_, h⟩
      · have := hs.boxin j b c h; exact ⟨this.1, by omega⟩
      · cases h; exact ⟨.inl hs.below.size, by omega⟩
    boxF := fun j b c h hl => by
      rcases getElem?_append_one h with h | ⟨_, h⟩
      · exact hs.boxF j b c h ((live_append (hlt h)).1 hl)
      · cases h; exact hs.out _ (Nat.le_refl _)
    boxrep := fun j d y h hy => by
      rcases getElem?_append_one h with h | ⟨rfl, rfl⟩
      · have hj := getElem?_lt h
        have hy' : bx[j]? = some y := by
          rcases getElem?_append_one hy with hy | ⟨h1, _⟩
          · exact hy
          · omega
        exact (hs.boxrep j d y h hy').later L hext (fun b c he _ => hb.block b (hs.boxin j b c (he ▸ h)).2)
      · rcases getElem?_append_one hy with hy | ⟨_, rfl⟩
        · have := getElem?_lt hy; omega
        · exact hx
    boxinj := fun i j b c c' hi hj li lj => by
      rcases getElem?_append_one hi with h1 | ⟨h1, h2⟩ <;> rcases getElem?_append_one hj with h3 | ⟨h3, h4⟩
      · exact hs.boxinj i j b c c' h1 h3 ((live_append (hlt h1)).1 li) ((live_append (hlt h3)).1 lj)
      · cases h4; have := (hs.boxin i _ c h1).2; omega
      · cases h2; have := (hs.boxin j _ c' h3).2; omega
      · omega
    toklen := hs.toklen
    tokin := fun k b h => by have := hs.tokin k b h; exact ⟨this.1, by omega⟩
    tokbox := fun k b j c h hj => by
      rcases getElem?_append_one hj with h1 | ⟨_, h1⟩
      · intro hl; exact hs.tokbox k b j c h h1 ((live_append (hlt h1)).1 hl)
      · cases h1; have := (hs.tokin k _ h).2; omega
    tokinj := hs.tokinj }

/-- F with m at block b -/
def setF (F : Nat → Nat) (b m : Nat) : Nat → Nat := fun c => if c = b then m else F c

theorem later_tok (hs : Sim mo n w0 F0 box0 g ⟨e, bx, f⟩ a w) (o : Obj) (m : Nat) (y : Option Nat) (z : Nat × Nat × Nat) :
    Later w g.F g.tok f (w.alloc o) (setF g.F w.heap.size m) (g.tok ++ [y]) (f ++ [z]) := by
  have L := later_alloc hs o
  have h0 := hs.out w.heap.size (Nat.le_refl _)
  refine ⟨L.cell, fun b => ?_, fun k t s n hk => ?_⟩
  · unfold setF; split
    · rename_i h; rw [h, h0]; exact Nat.zero_le _
    · exact Nat.le_refl _
  · have hlt := getElem?_lt hk
    refine ⟨n, by rw [List.getElem?_append_left hlt]; exact hk, Nat.le_refl _, fun _ => ⟨by rw [List.getElem?_append_left (by have := hs.toklen; simp only at this; omega)], fun b hb => ?_⟩⟩
    have h1 := (hs.tokin k b hb).2
    refine ⟨Below.heap_alloc _ _ _ h1, ?_⟩
    unfold setF; rw [if_neg (by omega)]

/-- a new slice of the call's own -/
theorem Sim.newTok (hs : Sim mo n w0 F0 box0 g ⟨e, bx, f⟩ a w) (o : Obj) (m : Nat) (z : Nat × Nat × Nat) :
    Sim mo n w0 F0 box0 { F := setF g.F w.heap.size m, tok := g.tok ++ [some w.heap.size], box := g.box } ⟨e, bx, f ++ [z]⟩ a (w.alloc o) := by
  have hb : Bel mo w.heap.size w (w.alloc o) := (Bel.refl _ _).alloc (Nat.le_refl _) o
  have L := later_tok hs o m (some w.heap.size) z
  have hsz : (w.alloc o).heap.size = w.heap.size + 1 := by simp
  exact {
    defers := hs.defers, size := hs.size
    env := hs.env.later L (fun _ _ h => h)
    below := hs.below.trans hb
    old := fun b h => by have := hs.below.size; simp only [setF]; rw [if_neg (by omega)]; exact hs.old b h
    out := fun b h => by simp only [setF]; rw [if_neg (by omega)]; exact hs.out b (by omega)
    boxlen := hs.boxlen
    boxpre := hs.boxpre
    boxin := fun j b c h => by have := hs.boxin j b c h; exact ⟨this.1, by omega⟩
    boxF := fun j b c h hl => by
      have := (hs.boxin j b c h).2
      simp only [setF]; rw [if_neg (by omega)]; exact hs.boxF j b c h hl
    boxrep := hs.boxrep.later L (fun j b c h _ => hb.block b (hs.boxin j b c h).2)
    boxinj := hs.boxinj
    toklen := by have := hs.toklen; simp only at this; simp [this]
    tokin := fun k b h => by
      rcases getElem?_append_one h with h | ⟨_, h⟩
      · have := hs.tokin k b h; exact ⟨this.1, by omega⟩
      · cases h; exact ⟨hs.below.size, by omega⟩
    tokbox := fun k b j c h hj => by
      rcases getElem?_append_one h with h | ⟨_, h⟩
      · exact hs.tokbox k b j c h hj
      · cases h; have := (hs.boxin j _ c hj).2; omega
    tokinj := fun i j b hi hj => by
      rcases getElem?_append_one hi with h1 | ⟨h1, h2⟩ <;> rcases getElem?_append_one hj with h3 | ⟨h3, h4⟩
      · exact hs.tokinj i j b h1 h3
      · cases h4; have := (hs.tokin i _ h1).2; omega
      · cases h2; have := (hs.tokin j _ h3).2; omega
      · omega }

/-- a token that stands for nil -/
theorem Sim.nilTok (hs : Sim mo n w0 F0 box0 g ⟨e, bx, f⟩ a w) (z : Nat × Nat × Nat) :
    Sim mo n w0 F0 box0 { F := g.F, tok := g.tok ++ [none], box := g.box } ⟨e, bx, f ++ [z]⟩ a w := by
  have L : Later w g.F g.tok f w g.F (g.tok ++ [none]) (f ++ [z]) := by
    refine ⟨fun _ _ _ => rfl, fun _ => Nat.le_refl _, fun k t s n hk => ?_⟩
    have hlt := getElem?_lt hk
    exact ⟨n, by rw [List.getElem?_append_left hlt]; exact hk, Nat.le_refl _, fun _ => ⟨by rw [List.getElem?_append_left (by have := hs.toklen; simp only at this; omega)], fun b hb => ⟨rfl, rfl⟩⟩⟩
  exact { hs with
    env := hs.env.later L (fun _ _ h => h)
    boxrep := hs.boxrep.later L (fun _ _ _ _ _ => rfl)
    toklen := by have := hs.toklen; simp only at this; simp [this]
    tokin := fun k b h => by
      rcases getElem?_append_one h with h | ⟨_, h⟩
      · exact hs.tokin k b h
      · cases h
    tokbox := fun k b j c h hj => by
      rcases getElem?_append_one h with h | ⟨_, h⟩
      · exact hs.tokbox k b j c h hj
      · cases h
    tokinj := fun i j b hi hj => by
      rcases getElem?_append_one hi with h1 | ⟨h1, h2⟩ <;> rcases getElem?_append_one hj with h3 | ⟨h3, h4⟩
      · exact hs.tokinj i j b h1 h3
      · cases h4
      · cases h2
      · omega }
end
end Abs
end Go.Proofs.Ytamcaplpgmloiaa
