/-
  The operations that make memory or write into the call's own.
-/
import Derived.Test.YtamcaplpgmloiaaSound5
namespace Go.Proofs.Ytamcaplpgmloiaa
namespace Abs
open Go.RowKit

section lists
theorem length_setAt {α : Type} : ∀ (xs : List α) (cs : List α) (o : Nat), (setAt cs o xs).length = cs.length
  | [], _, _ => rfl
  | x :: xs, cs, o => by rw [setAt, length_setAt xs]; simp

theorem setAt_mid {α : Type} : ∀ (xs pre post : List α), xs.length ≤ post.length → setAt (pre ++ post) pre.length xs = pre ++ xs ++ post.drop xs.length
  | [], pre, post, _ => by simp [setAt]
  | x :: xs, pre, [], h => by simp at h
  | x :: xs, pre, p :: post, h => by
    have e1 : (pre ++ p :: post).set pre.length x = (pre ++ [x]) ++ post := by simp
    have := setAt_mid xs (pre ++ [x]) post (by simpa using h)
    rw [List.length_append] at this
    rw [setAt, e1]
    simpa using this

/-- two lists whose members belong together -/
def Both {α β : Type} (R : α → β → Prop) (xs : List α) (ys : List β) : Prop := xs.length = ys.length ∧ ∀ (i : Nat) x y, xs[i]? = some x → ys[i]? = some y → R x y

theorem Both.set {α β : Type} {R : α → β → Prop} {xs : List α} {ys : List β} (h : Both R xs ys) (o : Nat) {x : α} {y : β} (hxy : R x y) : Both R (xs.set o x) (ys.set o y) := by
  refine ⟨by simp [h.1], fun i a b ha hb => ?_⟩
  rw [List.getElem?_set] at ha hb
  by_cases hi : o = i
  · subst hi
    simp only [if_true] at ha hb
    split at ha <;> split at hb
    · cases ha; cases hb; exact hxy
    · cases hb
    · cases ha
    · cases ha
  · simp only [hi, if_false] at ha hb
    exact h.2 i a b ha hb

theorem Both.cons {α β : Type} {R : α → β → Prop} {x : α} {y : β} {xs : List α} {ys : List β} : Both R (x :: xs) (y :: ys) ↔ R x y ∧ Both R xs ys := by
  constructor
  · rintro ⟨h1, h2⟩
    exact ⟨h2 0 x y rfl rfl, by simpa using h1, fun i a b ha hb => h2 (i + 1) a b (by simpa using ha) (by simpa using hb)⟩
  · rintro ⟨h1, h2, h3⟩
    refine ⟨by simp [h2], fun i a b ha hb => ?_⟩
    cases i with
    | zero => simp at ha hb; subst ha; subst hb; exact h1
    | succ i => exact h3 i a b (by simpa using ha) (by simpa using hb)

theorem Both.setAt {α β : Type} {R : α → β → Prop} : ∀ {us : List α} {vs : List β} {xs : List α} {ys : List β} (o : Nat), Both R xs ys → Both R us vs → Both R (Abs.setAt xs o us) (Abs.setAt ys o vs)
  | [], [], _, _, _, h, _ => h
  | [], _ :: _, _, _, _, _, h => by simp [Both] at h
  | _ :: _, [], _, _, _, _, h => by simp [Both] at h
  | u :: us, v :: vs, xs, ys, o, h, k => by
    obtain ⟨k1, k2⟩ := Both.cons.1 k
    exact Both.setAt (o + 1) (h.set o k1) k2
end lists

section runs
variable {P : Program}
theorem foldl_setAt (off : Nat) : ∀ (l : List Value) (s : Nat) (cells : Array Value), ((l.zipIdx s).foldl (fun cs (cj : Value × Nat) => cs.setIfInBounds (off + cj.2) cj.1) cells).toList = setAt cells.toList (off + s) l
  | [], _, _ => rfl
  | x :: l, s, cells => by
    rw [List.zipIdx_cons, List.foldl_cons, foldl_setAt off l (s + 1)]
    simp [setAt, Array.toList_setIfInBounds, Nat.add_assoc]

theorem fill_run (place : Nat → Option (Nat × Nat)) : ∀ (parts : List (Nat × Value)) (cells : Array Value) (pl : List (Nat × Nat)), parts.map (fun p => place p.1) = pl.map some →
    parts.map (fun p => p.2.cells.size) = pl.map (·.2) → (∀ q ∈ pl, q.1 + q.2 ≤ cells.size) →
    ∃ cells', Instr.fill place cells parts = some cells' ∧ cells'.toList = fillAt cells.toList (pl.map (·.1)) (parts.map fun p => p.2.cells.toList)
  | [], cells, pl, h, _, _ => by
    cases pl with
    | nil => exact ⟨cells, rfl, rfl⟩
    | cons => simp at h
  | (i, v) :: parts, cells, [], h, _, _ => by simp at h
  | (i, v) :: parts, cells, (o, s) :: pl, h, hs, hle => by
    simp only [List.map_cons, List.cons.injEq] at h hs
    have hb := hle (o, s) (by simp)
    simp only at hb hs h
    obtain ⟨cells', h1, h2⟩ := fill_run place parts ((v.cells.zipIdx).foldl (fun cs (cj : Value × Nat) => cs.setIfInBounds (o + cj.2) cj.1) cells) pl h.2 hs.2 (fun q hq => by
      have e : ((v.cells.zipIdx).foldl (fun cs (cj : Value × Nat) => cs.setIfInBounds (o + cj.2) cj.1) cells).size = cells.size := by
        rw [← Array.length_toList, ← Array.foldl_toList, Array.toList_zipIdx, foldl_setAt, length_setAt, Array.length_toList]
      rw [e]; exact hle q (by simp [hq]))
    refine ⟨cells', ?_, ?_⟩
    · unfold Instr.fill
      rw [h.1]
      simp only
      rw [if_neg (by simp; omega)]
      exact h1
    · rw [h2, ← Array.foldl_toList, Array.toList_zipIdx, foldl_setAt]
      simp [fillAt]
end runs

section
variable {P : Program} {B : Nat} {w : World} {F : Nat → Nat} {tok : List (Option Nat)} {fr : Fr} {box : List BId} {bx : List ABox} {e : Env} {a : Act} {o : Oper}

/-- a cell's value and what is known of it -/
def CellR (B : Nat) (w : World) (F : Nat → Nat) (tok : List (Option Nat)) (fr : Fr) (box : List BId) (x : AV) (v : Value) : Prop := Rep B w F tok fr box x v ∧ v.oneCell' = true

theorem both_map_val {vs : List Value} (h : ∀ v ∈ vs, v.oneCell' = true) : Both (CellR B w F tok fr box) (vs.map constAV) vs :=
  ⟨by simp, fun i x v hx hv => by
    rw [List.getElem?_map, hv] at hx
    cases hx
    exact ⟨constAV_rep v, h v (List.mem_of_getElem? hv)⟩⟩

theorem cellsK_sound {x : AV} {v : Value} {k : List AV → Prop} (h : cellsK x k) (hx : RepT B w F tok fr box x v) : ∃ cs, k cs ∧ Both (CellR B w F tok fr box) cs v.cells.toList := by
  unfold cellsK at h
  split at h
  · cases hx.agg_inv with
    | agg cs vs hl h1 hr =>
      refine ⟨_, h, (by show _ = vs.toList.length; simpa using hl), fun i x v hx hv => ?_⟩
      have hv' : vs[i]? = some v := by simpa [Value.cells] using hv
      have hi := (Array.getElem?_eq_some_iff.1 hv').1
      have e : vs.getD i undef = v := by simp [Array.getD, hi, (Array.getElem?_eq_some_iff.1 hv').2]
      exact e ▸ ⟨hr i x hx, h1 i hi⟩
  · refine ⟨_, h, ?_⟩
    have hr := hx.list_inv
    cases hr with
    | list o xs a cap => exact Both.cons.2 ⟨⟨hx.list_inv, rfl⟩, rfl, by simp⟩
  · rw [hx.str_inv]
    exact ⟨_, h, Both.cons.2 ⟨⟨.str _, rfl⟩, rfl, by simp⟩⟩
  · obtain ⟨b, cap, hb, rfl⟩ := hx.bptr_inv
    exact ⟨_, h, Both.cons.2 ⟨⟨.bptr _ _ b cap hb, rfl⟩, rfl, by simp⟩⟩
  · have hr : Rep B w F tok fr box (.bsl _ _) v := hx.plain (by simp)
    rcases hr.bsl_inv with ⟨b, cap, hb, hn, rfl⟩ | ⟨hb, rfl, rfl⟩
    · exact ⟨_, h, Both.cons.2 ⟨⟨hr, rfl⟩, rfl, by simp⟩⟩
    · exact ⟨_, h, Both.cons.2 ⟨⟨hr, rfl⟩, rfl, by simp⟩⟩
  · have hr := hx.rptr_inv
    cases hr with
    | rptr cs b off vs => exact ⟨_, h, Both.cons.2 ⟨⟨hx.rptr_inv, rfl⟩, rfl, by simp⟩⟩
  · have hr := hx.clo_inv
    cases hr with
    | clo f xs ys vf vc => exact ⟨_, h, Both.cons.2 ⟨⟨hx.clo_inv, rfl⟩, rfl, by simp⟩⟩
  · obtain ⟨ha, h⟩ := h
    cases hx.val_inv
    refine ⟨_, h, both_map_val fun v hv => ?_⟩
    exact (Array.all_eq_true_iff_forall_mem.1 ha) v (by simpa using hv)
  · exact h.no
  · rename_i u hn1 hn2
    refine ⟨_, h, ?_⟩
    have e : u.cells.toList = [u] := by cases u <;> first | rfl | exact absurd rfl (hn1 _)
    rw [hx.val_inv, e]
    refine Both.cons.2 ⟨⟨.val _, ?_⟩, rfl, by simp⟩
    cases u <;> first | rfl | exact absurd rfl (hn1 _) | exact absurd rfl (hn2 _)
  · exact h.no

theorem cellsKs_sound : ∀ {xs : List AV} {vs : List Value} {k : List (List AV) → Prop}, cellsKs xs k → Both (RepT B w F tok fr box) xs vs →
    ∃ cs, k cs ∧ Both (Both (CellR B w F tok fr box)) cs (vs.map fun v => v.cells.toList)
  | [], [], _, h, _ => ⟨[], h, rfl, by simp⟩
  | [], _ :: _, _, _, hb => by simp [Both] at hb
  | _ :: _, [], _, _, hb => by simp [Both] at hb
  | x :: xs, v :: vs, k, h, hb => by
    obtain ⟨b1, b2⟩ := Both.cons.1 hb
    obtain ⟨c, h, hc⟩ := cellsK_sound h b1
    obtain ⟨cs, h, hcs⟩ := cellsKs_sound h b2
    exact ⟨_, h, Both.cons.2 ⟨hc, hcs⟩⟩

theorem evs_sound (he : EnvOk B w F tok fr box e a) : ∀ {l : List Operand} {k : List AV → Prop}, evs true e l k → ∃ vs, k vs ∧ Both (RepT B w F tok fr box) vs (l.map a.eval)
  | [], _, h => ⟨[], h, rfl, by simp⟩
  | x :: l, k, h => by
    obtain ⟨y, h, hy⟩ := evG_sound he h
    obtain ⟨vs, h, hvs⟩ := evs_sound he h
    exact ⟨_, h, Both.cons.2 ⟨hy, hvs⟩⟩
end
end Abs
end Go.Proofs.Ytamcaplpgmloiaa
