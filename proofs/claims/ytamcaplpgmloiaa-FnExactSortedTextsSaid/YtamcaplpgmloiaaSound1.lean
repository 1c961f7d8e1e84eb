/-
  The operations that leave memory alone do what the evaluator says of them.
-/
import Derived.Test.YtamcaplpgmloiaaEval
import Derived.WalkLawsBesides
namespace Go.Proofs.Ytamcaplpgmloiaa
namespace Abs
open Go.RowKit

/-- What is known of the slots. -/
def EnvOk (B : Nat) (w : World) (F : Nat → Nat) (tok : List (Option Nat)) (fr : Fr) (box : List BId) (e : Env) (a : Act) : Prop :=
  ∀ i, RepT B w F tok fr box (look e i) (a.tmps.getD i undef)

section
variable {P : Program} {B : Nat} {w : World} {F : Nat → Nat} {tok : List (Option Nat)} {fr : Fr} {box : List BId} {bx : List ABox} {e : Env} {a : Act}

theorem constAV_rep (v : Value) : Rep B w F tok fr box (constAV v) v := by
  cases v <;> first | exact .val _ | exact .str _

theorem ev_sound (he : EnvOk B w F tok fr box e a) (x : Operand) : RepT B w F tok fr box (ev e x) (a.eval x) := by
  cases x with
  | tmp t => exact he t
  | const v => exact .rep _ _ (constAV_rep v)
  | global g => exact .rep _ _ (.val _)
  | func f => exact .rep _ _ (.clo f [] [] #[] #[] rfl rfl (by simp) (by simp))

theorem forceK_eq {x : AV} {k : AV → Prop} : forceK x k = k x := by
  cases x with
  | list o xs => cases o <;> rfl
  | _ => rfl
theorem forceEnv_eq {e : Env} : ∀ {K : List Nat} {k : Env → Prop}, forceEnv e K k = k (norm e K)
  | [], _ => rfl
  | i :: K, k => by rw [forceEnv, forceK_eq, forceEnv_eq]; rfl
theorem forceBx_eq : ∀ {b : List ABox} {k : List ABox → Prop}, forceBx b k = k b
  | [], _ => rfl
  | .cells rk cs :: r, k => by rw [forceBx, forceBx_eq]
  | .dead :: r, k => by rw [forceBx, forceBx_eq]
  | .iter s p :: r, k => by rw [forceBx, forceBx_eq]

theorem unG_sound {x : AV} {v : Value} {k : AV → Prop} (h : unG true x k) (hx : RepT B w F tok fr box x v) : ∃ y, k y ∧ RepT B w F tok fr box y v := by
  cases x with
  | cond g y =>
    obtain ⟨hg, hk⟩ := (h : Need _ _)
    exact ⟨y, hk, hx.cond_inv.1 (hg rfl)⟩
  | _ => exact ⟨_, h, hx⟩

theorem unG_ex {gd : Bool} {x : AV} {k : AV → Prop} (h : unG gd x k) : ∃ y, k y := by
  cases x with
  | cond g y => obtain ⟨_, hk⟩ := (h : Need _ _); exact ⟨y, hk⟩
  | _ => exact ⟨_, h⟩

theorem evG_sound (he : EnvOk B w F tok fr box e a) {x : Operand} {k : AV → Prop} (h : evG true e x k) : ∃ y, k y ∧ RepT B w F tok fr box y (a.eval x) :=
  unG_sound h (ev_sound he x)

theorem Stop.no {p : Prop} (h : Stop) : p := by cases h

theorem gInt_inv {x : AV} {k : IntKind → Int → Prop} (h : gInt x k) : ∃ kd n, x = .val (.int kd n) ∧ k kd n := by
  unfold gInt at h; split at h
  · exact ⟨_, _, rfl, h⟩
  · cases h
theorem gBool_inv {x : AV} {k : Bool → Prop} (h : gBool x k) : ∃ b, x = .val (.bool b) ∧ k b := by
  unfold gBool at h; split at h
  · exact ⟨_, rfl, h⟩
  · cases h
theorem gList_inv {x : AV} {k : List (List AV) → Prop} (h : gList x k) : (∃ o xs, x = .list o xs ∧ k xs) ∨ (x = .val (.slice none 0 0) ∧ k []) := by
  unfold gList at h; split at h
  · exact .inl ⟨_, _, rfl, h⟩
  · exact .inr ⟨rfl, h⟩
  · cases h

theorem gList_self {x : AV} {k : List (List AV) → Prop} (h : gList x k) : gList x fun xs => k xs ∧ ∀ k', gList x k' → k' xs := by
  rcases gList_inv h with ⟨o, xs, rfl, hk⟩ | ⟨rfl, hk⟩
  · exact ⟨hk, fun _ h => h⟩
  · exact ⟨hk, fun _ h => h⟩

/-- A list read as a slice. -/
theorem gList_rep {x : AV} {k : List (List AV) → Prop} {v : Value} (h : gList x k) (hx : RepT B w F tok fr box x v) :
    ∃ (xs : List (List AV)) (a : Option Addr) (cap sz b off : Nat) (vs : Nat → Nat → Value), k xs ∧ v = .slice a xs.length cap ∧ xs.length ≤ cap ∧ (xs ≠ [] → a = some ⟨b, off, none⟩) ∧ (∀ e ∈ xs, e.length = sz) ∧
      (xs ≠ [] → off + xs.length * sz ≤ F b) ∧ (∀ i e j c, xs[i]? = some e → e[j]? = some c → w.cell? ⟨b, off + i * sz + j, none⟩ = some (vs i j) ∧ (vs i j).oneCell' = true) ∧
      (∀ i e j c, xs[i]? = some e → e[j]? = some c → Rep B w F tok fr [] c (vs i j)) := by
  rcases gList_inv h with ⟨o, xs, rfl, hk⟩ | ⟨rfl, hk⟩
  · cases hx.list_inv with
    | list _ _ a cap sz b off vs hcap ha hsz hF hc hr ho => exact ⟨xs, a, cap, sz, b, off, vs, hk, rfl, hcap, ha, hsz, hF, hc, hr⟩
  · cases hx.val_inv
    exact ⟨[], none, 0, 0, 0, 0, fun _ _ => undef, hk, rfl, Nat.le_refl _, fun h => (h rfl).elim, by simp, fun h => (h rfl).elim, by simp, by simp⟩

/-- the value of an operation, in every world that goes on from w -/
def Gives (P : Program) (a : Act) (o : Oper) (w : World) (v : Value) : Prop :=
  ∀ w', Below w.heap.size w w' → (execOp a.eval o).run P w' = .ok (.value v) w'

theorem gStr_inv {x : AV} {k : Str → Prop} (h : gStr x k) : ∃ s, x = .str s ∧ k s := by
  unfold gStr at h; split at h
  · exact ⟨_, rfl, h⟩
  · cases h

end
end Abs
end Go.Proofs.Ytamcaplpgmloiaa
