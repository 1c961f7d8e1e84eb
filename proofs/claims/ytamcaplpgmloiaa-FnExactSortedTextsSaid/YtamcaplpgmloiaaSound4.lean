/-
  The operations that leave memory alone, all in one law; and that the evaluator always goes on to some value.
-/
import Derived.Test.YtamcaplpgmloiaaSound3
namespace Go.Proofs.Ytamcaplpgmloiaa
namespace Abs
open Go.RowKit

section
variable {P : Program} {B : Nat} {w : World} {F : Nat → Nat} {tok : List (Option Nat)} {fr : Fr} {box : List BId} {bx : List ABox} {e : Env} {a : Act} {o : Oper}

theorem args_one {c : Go.Call} (h : c.args.size = 1) : c.args = #[arg c.args.toList 0] := by
  rcases c with ⟨_, ⟨l⟩, _⟩
  match l, h with
  | [x], _ => rfl

theorem types_one {c : Go.Call} (h : c.argTypes.size = 1) : c.argTypes = #[c.argTypes.getD 0 0] := by
  rcases c with ⟨_, _, ⟨l⟩⟩
  match l, h with
  | [x], _ => rfl

theorem aVal_sound (ops : List Oper) (he : EnvOk B w F tok fr box e a) (hB : BoxesOk B w F tok fr box bx)
    {k : AV → Prop} (h : aVal (cOp P ops o) true e bx k) : Does P B w F tok fr box a o k := by
  unfold cOp at h
  cases hop : o.op <;> simp only [hop] at h
  case move x => exact does_mv he (.inl hop) h
  case assign x => exact does_mv he (.inr hop) h
  case pick c x y =>
    split at h
    · exact does_and he hop h
    · split at h
      · exact does_or he hop h
      · exact h.no
  case box => exact h.no
  case alloc =>
    split at h
    · split at h <;> exact h.no
    · exact h.no
  case build =>
    split at h
    · split at h <;> exact h.no
    · exact h.no
  case buildSlice => split at h <;> exact h.no
  case makeSlice => split at h <;> exact h.no
  case load t x =>
    split at h
    · rename_i hok; exact does_load he hB hop hok h
    · exact h.no
  case store => split at h <;> exact h.no
  case binOp op t x y u =>
    split at h
    · rename_i ht; exact does_binb he hop ht h
    · rename_i ht
      split at h
      · split at h
        · exact does_nilq (ne := false) he hop ht h
        · exact does_nilq (ne := true) he hop ht h
        · exact h.no
      · exact h.no
    · exact does_bin he hop h
  case unOp op t x =>
    split at h
    · exact does_not he hop h
    · exact does_neg he hop h
    · exact h.no
  case makeFunc =>
    split at h
    · split at h
      · split at h <;> exact h.no
      · exact h.no
    · exact h.no
  case convert s d x =>
    split at h
    · rename_i ks kd hs hd
      have inv : ∀ {t k}, isInt P t = some k → P.underlying t = some (.int k) := fun {t k} h => by
        unfold isInt at h; split at h
        · cases h; assumption
        · cases h
      exact does_conv he hop (inv hs) (inv hd) h
    · split at h
      · rename_i el hs hd
        split at h
        · rename_i hel
          have hel' : P.underlying el = some (.int .u8) := by
            unfold isInt at hel; split at hel
            · cases hel; assumption
            · cases hel
          exact does_b2s he hop hs hel' hd h
        · exact h.no
      · exact h.no
  case fieldAddr t x i =>
    split at h
    · rename_i f hf
      split at h
      · exact h.no
      · rename_i hz; exact does_fadr he hop hf hz h
    · exact h.no
  case field t x i =>
    split at h
    · rename_i f hf
      split at h
      · rename_i hok; exact does_field he hop hf hok h
      · exact h.no
    · exact h.no
  case indexAddr t x i =>
    split at h
    · rename_i hg; exact does_iadr he hop hg h
    · exact h.no
  case index t x i =>
    split at h
    · rename_i ht; exact does_index he hop ht h
    · exact h.no
  case slice t x lo hi mx =>
    split at h
    · split at h
      · rename_i ht; exact does_sliceS he hop ht h
      · rename_i el ht
        split at h
        · rename_i hok
          have : elemTy P t = el := by simp [elemTy, ht]
          rw [this] at h hok
          simp only [okTy, Bool.and_eq_true] at hok
          exact does_sliceL he hop ht hok.2 h
        · exact h.no
      · exact h.no
    · exact h.no
  case extract x i => exact does_extract he hop h
  case range t x => split at h <;> exact h.no
  case next x s => split at h <;> exact h.no
  case call c =>
    split at h
    · rename_i b hc
      split at h
      · split at h
        · rename_i ht
          split at h
          · rename_i hs
            refine does_lenS (t := c.argTypes.getD 0 0) he (x := arg c.args.toList 0) ?_ ht h
            rw [hop, ← args_one hs.1, ← types_one hs.2, ← hc]
          · exact h.no
        · rename_i el ht
          split at h
          · rename_i hs
            refine does_lenL (t := c.argTypes.getD 0 0) he (x := arg c.args.toList 0) ?_ ht h
            rw [hop, ← args_one hs.1, ← types_one hs.2, ← hc]
          · exact h.no
        · exact h.no
      · split at h <;> exact h.no
      · exact h.no
    · split at h
      · split at h
        · split at h <;> exact h.no
        · exact h.no
      · exact h.no
      · exact h.no
    · exact h.no
  all_goals exact h.no
end
end Abs
end Go.Proofs.Ytamcaplpgmloiaa
