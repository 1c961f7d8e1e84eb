/-
  Functions: from their code to what a call of them hands back.
-/
import Derived.Test.YtamcaplpgmloiaaSound14
namespace Go.Proofs.Ytamcaplpgmloiaa
namespace Abs
variable {mo : Bool}
open Go.RowKit

/-- where a result lies -/
inductive RRes where
  | tmp (t : Nat)
  | cell (t : Nat) (agg : Bool) (size : Nat)
  | other

def cRes (P : Program) : ResultVar → RRes
  | .tmp t => .tmp t
  | .cell t ty => if okTy P ty then .cell t (aggTy P ty) (P.cellsOf ty) else .other

def resOne (s : St) (r : RRes) (k : AV → Prop) : Prop :=
  match r with
  | .tmp t => unG true (look s.env t) k
  | .cell t ag sz => ptrCells s.bx (look s.env t) fun cs => takeAV ag sz cs k
  | .other => Stop

def resAll (s : St) : List RRes → (List AV → Prop) → Prop
  | [], k => k []
  | r :: rs, k => resOne s r fun x => resAll s rs fun xs => k (x :: xs)

inductive Final (v r : AV) (f frs : Fr) : Prop | mk : v = r → f = frs → Final v r f frs
inductive FinalT (v r : AV) (b b1 : List ABox) : Prop | mk : v = r → b = b1 → FinalT v r b b1

/-- a slice that is handed back: what its cells hold is named by whoever proves it -/
inductive Freeze (b : List ABox) (f : Fr) (j n : Nat) (k : AV → List ABox → Fr → Prop) : Prop
  | mk (xs : List (List AV)) (cs : List AV) (t sz : Nat) (h1 : b[j]? = some (.cells (.row t sz) cs)) (h2 : cs = xs.flatten) (h3 : xs.length = n) (h4 : ∀ e ∈ xs, e.length = sz) (h5 : ∀ c ∈ cs, noRef c = true)
      (hk : k (.list (some f.length) xs) (b.set j .dead) (f ++ [(t, sz, n)])) : Freeze b f j n k

/-- nil is a slice of the call's own, too -/
inductive FinVal (v : Value) (b : List ABox) (f : Fr) (k : AV → List ABox → Fr → Prop) : Prop
  | keep (hk : k (.val v) b f) : FinVal v b f k
  | nil (t sz : Nat) (hv : v = .slice none 0 0) (hk : k (.list (some f.length) []) b (f ++ [(t, sz, 0)])) : FinVal v b f k

def fin0 (x : AV) (b : List ABox) (f : Fr) (k : AV → List ABox → Fr → Prop) : Prop :=
  match x with
  | .bsl j n => Freeze b f j n k
  | .any => k .any b f
  | .val v => FinVal v b f k
  | .str s => k (.str s) b f
  | .list o xs => k (.list o xs) b f
  | .agg cs => k (.agg cs) b f
  | .tup vs => k (.tup vs) b f
  | .bptr j off => k (.bptr j off) b f
  | .rptr cs => k (.rptr cs) b f
  | .clo g xs ys => k (.clo g xs ys) b f
  | .cond _ _ => Stop

def finL (one : AV → List ABox → Fr → (AV → List ABox → Fr → Prop) → Prop) : List AV → List ABox → Fr → (List AV → List ABox → Fr → Prop) → Prop
  | [], b, f, k => k [] b f
  | c :: cs, b, f, k => one c b f fun c b f => finL one cs b f fun cs b f => k (c :: cs) b f

/-- a slice whose elements have slices, too: these first -/
inductive FreezeD (one : AV → List ABox → Fr → (AV → List ABox → Fr → Prop) → Prop) (b : List ABox) (f : Fr) (j n : Nat) (k : AV → List ABox → Fr → Prop) : Prop
  | flat (h : Freeze b f j n k) : FreezeD one b f j n k
  | deep (t sz : Nat) (cs : List AV) (h1 : b[j]? = some (.cells (.row t sz) cs)) (hk : finL one cs b f fun cs' b' f' => b'[j]? = some (.cells (.row t sz) cs) ∧ Freeze (b'.set j (.cells (.row t sz) cs')) f' j n k) : FreezeD one b f j n k
/-- a struct that is handed back, with slices in its fields or without -/
inductive FinAgg (one : AV → List ABox → Fr → (AV → List ABox → Fr → Prop) → Prop) (cs : List AV) (b : List ABox) (f : Fr) (k : AV → List ABox → Fr → Prop) : Prop
  | keep (hk : k (.agg cs) b f) : FinAgg one cs b f k
  | deep (hk : finL one cs b f fun cs b f => k (.agg cs) b f) : FinAgg one cs b f k

def finS (one : AV → List ABox → Fr → (AV → List ABox → Fr → Prop) → Prop) (x : AV) (b : List ABox) (f : Fr) (k : AV → List ABox → Fr → Prop) : Prop :=
  match x with
  | .bsl j n => FreezeD one b f j n k
  | .any => k .any b f
  | .val v => FinVal v b f k
  | .str s => k (.str s) b f
  | .list o xs => k (.list o xs) b f
  | .agg cs => FinAgg one cs b f k
  | .tup vs => k (.tup vs) b f
  | .bptr j off => k (.bptr j off) b f
  | .rptr cs => k (.rptr cs) b f
  | .clo g xs ys => k (.clo g xs ys) b f
  | .cond _ _ => Stop
def fin1 : AV → List ABox → Fr → (AV → List ABox → Fr → Prop) → Prop := finS (finS (finS fin0))

def finAll : List AV → List ABox → Fr → (List AV → List ABox → Fr → Prop) → Prop
  | [], b, f, k => k [] b f
  | c :: cs, b, f, k => fin1 c b f fun c b f => finAll cs b f fun cs b f => k (c :: cs) b f

def outK (rs : List RRes) (s : St) (Φ : AV → List ABox → Fr → Prop) : Prop :=
  match rs with
  | [r] => resOne s r fun x => fin1 x s.bx s.fr Φ
  | rs => resAll s rs fun xs => finAll xs s.bx s.fr fun xs b f => Φ (.tup xs) b f
def doneG (rs : List RRes) (Φ : AV → List ABox → Fr → Prop) (e : Exit) (s : St) : Prop :=
  match e with
  | .normal => outK rs s Φ
  | .ret => outK rs s Φ
  | _ => Stop
def doneK (rs : List RRes) (r : AV) (frs : Fr) : Exit → St → Prop := doneG rs fun v _ f => Final v r f frs
/-- what is handed back is plain: what the call has laid for itself does not matter -/
def doneS (rs : List RRes) (r : AV) : Exit → St → Prop := doneG rs fun v _ _ => Final v r [] []
/-- what is handed back is plain, and what is left in the boxes that were lent -/
def doneT (rs : List RRes) (nb : Nat) (r : AV) (b1 : List ABox) (e : Exit) (s : St) : Prop :=
  match e with
  | .normal => (match rs with | [x] => resOne s x fun x => FinalT x r (s.bx.take nb) b1 | rs => resAll s rs fun xs => FinalT (.tup xs) r (s.bx.take nb) b1)
  | .ret => (match rs with | [x] => resOne s x fun x => FinalT x r (s.bx.take nb) b1 | rs => resAll s rs fun xs => FinalT (.tup xs) r (s.bx.take nb) b1)
  | _ => Stop

def argEnv : Nat → List AV → Env
  | _, [] => []
  | i, x :: xs => (i, x) :: argEnv (i + 1) xs

theorem look_argEnv : ∀ (xs : List AV) (i j : Nat), look (argEnv i xs) j = if i ≤ j then (xs[j - i]?).getD .any else .any
  | [], i, j => by simp [argEnv, look]
  | x :: xs, i, j => by
    rw [argEnv, look, look_argEnv xs (i + 1) j]
    by_cases h : j = i
    · subst h; simp
    · rw [if_neg h]
      by_cases h2 : i + 1 ≤ j
      · rw [if_pos h2, if_pos (by omega), show j - i = (j - (i + 1)) + 1 by omega, List.getElem?_cons_succ]
      · rw [if_neg h2, if_neg (by omega)]

/-- what the function's end reads -/
def resRun (a : Act) (rv : ResultVar) : Sem Value := match rv with | .tmp t => pure (a.tmps.getD t undef) | .cell t ty => do loadVar ty (← asAddr (a.tmps.getD t undef))

section
variable {P : Program} {n : Nat} {w0 : World} {F0 : Nat → Nat} {box0 : List BId}

theorem res_one {g : G} {s : St} {a : Act} {w : World} (hs : Sim mo n w0 F0 box0 g s a w) {rv : ResultVar} {k : AV → Prop} (h : resOne s (cRes P rv) k) :
    ∃ x v, k x ∧ RepT w0.heap.size w g.F g.tok s.fr g.box x v ∧
      (resRun a rv).run P w = .ok v w := by
  cases rv with
  | tmp t =>
    obtain ⟨x, hk, hx⟩ := unG_sound h (hs.env t)
    exact ⟨x, _, hk, hx, rfl⟩
  | cell t ty =>
    by_cases hok : okTy P ty = true
    · rw [cRes, if_pos hok] at h
      replace h : ptrCells s.bx (look s.env t) fun cs => takeAV (aggTy P ty) (P.cellsOf ty) cs k := h
      obtain ⟨cs, b, off, vs, hk, hv, hc⟩ := ptr_rep hs.boxrep h (hs.env t)
      simp only [okTy, Bool.and_eq_true, Option.isSome_iff_exists] at hok
      obtain ⟨⟨d, hd⟩, ⟨i, hi⟩⟩ := hok
      have hsz : P.cellsOf ty = i.size := by simp [Program.cellsOf, hi]
      unfold takeAV at hk
      split at hk
      · rename_i hag
        obtain ⟨hn, hk⟩ := hk
        obtain ⟨h1, h2⟩ := cells_agg P hn hc
        have h3 := h2 w (Below.refl _ _)
        refine ⟨_, _, hk, .rep _ _ h1, ?_⟩
        rw [hsz] at h3 ⊢
        unfold aggTy at hag
        rw [hd] at hag
        cases d <;> simp at hag <;> simp [resRun, hv, asAddr, loadVar, isAgg, run_underlying hd, Go.sizeOf, typeInfo, hi, h3]
      · rename_i hag
        split at hk
        · rename_i c cs'
          obtain ⟨h1, _, h3⟩ := hc 0 c (by simp)
          refine ⟨_, _, hk, .rep _ _ h3, ?_⟩
          have h4 : w.cell? ⟨b, off, none⟩ = some (vs 0) := by simpa using h1
          unfold aggTy at hag
          rw [hd] at hag
          cases d <;> simp at hag <;> simp [resRun, hv, asAddr, loadVar, isAgg, run_underlying hd, h4]
        · exact hk.no
    · rw [cRes, if_neg hok] at h
      exact Stop.no h

theorem res_all {g : G} {s : St} {a : Act} {w : World} (hs : Sim mo n w0 F0 box0 g s a w) : ∀ (rs : List ResultVar) {k : List AV → Prop}, resAll s (rs.map (cRes P)) k →
    ∃ xs vs, k xs ∧ Both (RepT w0.heap.size w g.F g.tok s.fr g.box) xs vs ∧
      (rs.mapM (resRun a)).run P w = .ok vs w
  | [], k, h => ⟨[], [], h, ⟨rfl, by simp⟩, by simp⟩
  | r :: rs, k, h => by
    obtain ⟨x, v, hk, hx, hr⟩ := res_one (P := P) hs h
    obtain ⟨xs, vs, hk, hb, hrs⟩ := res_all hs rs hk
    refine ⟨x :: xs, v :: vs, hk, Both.cons.2 ⟨hx, hb⟩, ?_⟩
    simp only [List.mapM_cons, Sem.run_bind, Sem.run_pure, hr, Result.andThen_ok, hrs]

theorem mapM_len {a : Act} {w w' : World} : ∀ {rs : List ResultVar} {us : List Value}, (rs.mapM (resRun a)).run P w = .ok us w' → us.length = rs.length
  | [], us, h => by simp at h; rw [h.1]; rfl
  | r :: rs, us, h => by
    simp only [List.mapM_cons, Sem.run_bind] at h
    cases h1 : (resRun a r).run P w with
    | ok v w1 =>
      rw [h1, Result.andThen_ok] at h
      cases h2 : (rs.mapM (resRun a)).run P w1 with
      | ok vs w2 =>
        rw [h2, Result.andThen_ok, Sem.run_pure] at h
        have := mapM_len h2
        cases h
        simp [this]
      | _ => rw [h2] at h; cases h
    | _ => rw [h1] at h; cases h

end

section
variable {P : Program} {n : Nat} {w0 : World} {F0 : Nat → Nat}

/-- a slice's row becomes a slice of the call's own -/
theorem freeze_sound {g : G} {e : Env} {b : List ABox} {f : Fr} {a : Act} {w : World} (hs : Sim mo n w0 F0 [] g ⟨e, b, f⟩ a w) {j m : Nat} {k : AV → List ABox → Fr → Prop} (h : Freeze b f j m k) {v : Value}
    (hx : Rep w0.heap.size w g.F g.tok f g.box (.bsl j m) v) :
    ∃ g' x b' f', Sim mo n w0 F0 [] g' ⟨e, b', f'⟩ a w ∧ k x b' f' ∧ Rep w0.heap.size w g'.F g'.tok f' g'.box x v ∧ Later w g.F g.tok f w g'.F g'.tok f' ∧ g'.box = g.box := by
  obtain ⟨xs, cs, t, sz, h1, h2, rfl, h4, h5, hk⟩ := h
  have htl := hs.toklen
  simp only at htl
  have hlive : live b j := fun h => by rw [h1] at h; cases h
  have ld : ∀ {i : Nat}, live (b.set j .dead) i → live b i ∧ i ≠ j := fun {i} h => by
    unfold live at h
    rw [List.getElem?_set] at h
    by_cases hij : j = i
    · subst hij
      rw [if_pos rfl, if_pos (getElem?_lt h1)] at h
      exact absurd rfl h
    · rw [if_neg hij] at h; exact ⟨h, fun h' => hij h'.symm⟩
  have dl : ∀ {i : Nat}, ¬ live b i → ¬ live (b.set j .dead) i := fun h h' => h (ld h').1
  have tokcase : ∀ {y : Option Nat} {q b' : Nat}, (g.tok ++ [y])[q]? = some (some b') → g.tok[q]? = some (some b') ∨ (q = f.length ∧ y = some b') := fun {y q b'} h => by
    rcases getElem?_append_one h with h | ⟨h, h'⟩
    · exact .inl h
    · exact .inr ⟨by omega, h'.symm⟩
  rcases hx.bsl_inv with ⟨bl, cap, hb, hcap, rfl⟩ | ⟨hb, hz, rfl⟩
  · obtain ⟨c, t', hh, hle, hr, rfl, hcs, hcm⟩ := hs.boxrep j _ _ hb h1
    have hF0 := hs.boxF j bl cap hb hlive
    have hbin := hs.boxin j bl cap hb
    have hbw0 : w0.heap.size ≤ bl := by
      rcases hbin.1 with h | ⟨i, h⟩
      · exact h
      · simp at h
    have htb : ∀ q, g.tok[q]? ≠ some (some bl) := fun q hq => hs.tokbox q bl j cap hq hb hlive
    have L : Later w g.F g.tok f w (setF g.F bl (xs.length * sz)) (g.tok ++ [some bl]) (f ++ [(t', sz, xs.length)]) := by
      refine ⟨fun _ _ _ => rfl, fun b' => ?_, fun q t s n hq => ?_⟩
      · by_cases h : b' = bl
        · subst h; rw [hF0]; exact Nat.zero_le _
        · simp [setF, h]
      · have hlt := getElem?_lt hq
        refine ⟨n, by rw [List.getElem?_append_left hlt]; exact hq, Nat.le_refl _, fun _ => ⟨by rw [List.getElem?_append_left (by omega)], fun b' hb' => ⟨rfl, ?_⟩⟩⟩
        have : b' ≠ bl := fun h => htb q (h ▸ hb')
        simp [setF, this]
    refine ⟨{ F := setF g.F bl (xs.length * sz), tok := g.tok ++ [some bl], box := g.box }, _, _, _, {
      defers := hs.defers, size := hs.size
      env := hs.env.later L (fun _ _ h => h)
      below := hs.below
      old := fun b' h => by simp only [setF]; rw [if_neg (by omega)]; exact hs.old b' h
      out := fun b' h => by simp only [setF]; rw [if_neg (by omega)]; exact hs.out b' h
      boxlen := by simpa using hs.boxlen
      boxpre := hs.boxpre
      boxin := hs.boxin
      boxF := fun i b' c' hi hl => by
        obtain ⟨hl, hij⟩ := ld hl
        have : b' ≠ bl := fun h => hij (hs.boxinj i j b' c' cap hi (h ▸ hb) hl hlive)
        simp only [setF, if_neg this]; exact hs.boxF i b' c' hi hl
      boxrep := fun i d y hd hy => by
        simp only [List.getElem?_set] at hy
        by_cases hij : j = i
        · subst hij
          rw [if_pos rfl] at hy
          split at hy
          · cases hy; cases d <;> exact trivial
          · cases hy
        · rw [if_neg hij] at hy
          exact (hs.boxrep i d y hd hy).later L (fun _ _ h => h) (fun _ _ _ _ => rfl)
      boxinj := fun i i' b' c1 c2 hi hi' l1 l2 => hs.boxinj i i' b' c1 c2 hi hi' (ld l1).1 (ld l2).1
      toklen := by simp [htl]
      tokin := fun q b' hq => by
        rcases tokcase hq with hq | ⟨_, hq⟩
        · exact hs.tokin q b' hq
        · cases hq; exact ⟨hbw0, hbin.2⟩
      tokbox := fun q b' i c' hq hi => by
        rcases tokcase hq with hq | ⟨_, hq⟩
        · exact dl (hs.tokbox q b' i c' hq hi)
        · cases hq
          intro hl
          obtain ⟨hl, hij⟩ := ld hl
          exact hij (hs.boxinj i j _ c' cap hi hb hl hlive)
      tokinj := fun q q' b' hq hq' => by
        rcases tokcase hq with hq | ⟨e1, hq⟩ <;> rcases tokcase hq' with hq' | ⟨e2, hq'⟩
        · exact hs.tokinj q q' b' hq hq'
        · cases hq'; exact absurd hq (htb q)
        · cases hq; exact absurd hq' (htb q')
        · omega }, hk, ?_, L, rfl⟩
    subst h2
    have hget : ∀ (i q : Nat) (el : List AV) (x : AV), xs[i]? = some el → el[q]? = some x → w.cell? ⟨bl, 0 + i * sz + q, none⟩ = some (c.getD (i * sz + q) undef) ∧ (c.getD (i * sz + q) undef).oneCell' = true ∧
        Rep w0.heap.size w g.F g.tok f [] x (c.getD (i * sz + q) undef) := by
      intro i q el x hi hq
      have hf := flatten_get sz xs i q el x h4 hi hq
      have hlt : i * sz + q < c.size := by have := getElem?_lt hf; omega
      refine ⟨?_, (hr _ x hf).2, (hr _ x hf).1.anyBox [] (h5 x (List.mem_of_getElem? hf))⟩
      rw [Nat.zero_add]
      simp [World.cell?, hh, hlt, Array.getD]
    refine .list (some f.length) xs _ _ sz bl 0 (fun i q => c.getD (i * sz + q) undef) hcap (fun _ => rfl) h4 (fun _ => by simp [setF]) (fun i el q x hi hq => ⟨(hget i q el x hi hq).1, (hget i q el x hi hq).2.1⟩)
      (fun i el q x hi hq => (hget i q el x hi hq).2.2.later L (by simp)) (fun q hq => ?_)
    cases hq
    refine ⟨t', sz, xs.length, by simp, Nat.le_refl _, fun _ => ⟨rfl, ⟨c.toList.take (xs.length * sz), ?_, Or.inr ⟨bl, cap, c, rfl, hbw0, hh, hcap, hcm, hcs, rfl⟩⟩, by rw [← htl]; simp, fun b' hb' => by cases hb'; simp [setF]⟩⟩
    have : xs.length * sz ≤ c.size := by rw [hcs]; exact Nat.mul_le_mul_right _ hcap
    simp; omega
  · have hxs : xs = [] := List.eq_nil_of_length_eq_zero hz
    subst hxs
    have L : Later w g.F g.tok f w g.F (g.tok ++ [none]) (f ++ [(t, sz, ([] : List (List AV)).length)]) := by
      refine ⟨fun _ _ _ => rfl, fun _ => Nat.le_refl _, fun q t s n hq => ?_⟩
      have hlt := getElem?_lt hq
      exact ⟨n, by rw [List.getElem?_append_left hlt]; exact hq, Nat.le_refl _, fun _ => ⟨by rw [List.getElem?_append_left (by omega)], fun b' hb' => ⟨rfl, rfl⟩⟩⟩
    refine ⟨{ F := g.F, tok := g.tok ++ [none], box := g.box }, _, _, _, {
      defers := hs.defers, size := hs.size
      env := hs.env.later L (fun _ _ h => h)
      below := hs.below, old := hs.old, out := hs.out
      boxlen := by simpa using hs.boxlen
      boxpre := hs.boxpre
      boxin := hs.boxin
      boxF := fun i b' c' hi hl => hs.boxF i b' c' hi (ld hl).1
      boxrep := fun i d y hd hy => by
        simp only [List.getElem?_set] at hy
        by_cases hij : j = i
        · subst hij
          rw [if_pos rfl] at hy
          split at hy
          · cases hy; cases d <;> exact trivial
          · cases hy
        · rw [if_neg hij] at hy
          exact (hs.boxrep i d y hd hy).later L (fun _ _ h => h) (fun _ _ _ _ => rfl)
      boxinj := fun i i' b' c1 c2 hi hi' l1 l2 => hs.boxinj i i' b' c1 c2 hi hi' (ld l1).1 (ld l2).1
      toklen := by simp [htl]
      tokin := fun q b' hq => by
        rcases tokcase hq with hq | ⟨_, hq⟩
        · exact hs.tokin q b' hq
        · cases hq
      tokbox := fun q b' i c' hq hi => by
        rcases tokcase hq with hq | ⟨_, hq⟩
        · exact dl (hs.tokbox q b' i c' hq hi)
        · cases hq
      tokinj := fun q q' b' hq hq' => by
        rcases tokcase hq with hq | ⟨e1, hq⟩ <;> rcases tokcase hq' with hq' | ⟨e2, hq'⟩
        · exact hs.tokinj q q' b' hq hq'
        · cases hq'
        · cases hq
        · omega }, hk, ?_, L, rfl⟩
    refine .list (some f.length) [] none 0 sz 0 0 (fun _ _ => undef) (Nat.le_refl _) (fun h => absurd rfl h) (by simp) (fun h => absurd rfl h) (by simp) (by simp) (fun q hq => ?_)
    cases hq
    exact ⟨t, sz, 0, by simp, Nat.le_refl _, fun _ => ⟨rfl, ⟨[], World.ownsRow_nil w _ t sz⟩, by rw [← htl]; simp, by simp⟩⟩

theorem Later.trans {w w' w'' : World} {F F' F'' : Nat → Nat} {tok tok' tok'' : List (Option Nat)} {fr fr' fr'' : Fr} (h : Later w F tok fr w' F' tok' fr') (h' : Later w' F' tok' fr' w'' F'' tok'' fr'') : Later w F tok fr w'' F'' tok'' fr'' := by
  refine ⟨fun b i hi => (h'.cell b i (Nat.lt_of_lt_of_le hi (h.le b))).trans (h.cell b i hi), fun b => Nat.le_trans (h.le b) (h'.le b), fun k t s n hk => ?_⟩
  obtain ⟨n', h1, h2, h3⟩ := h.tok k t s n hk
  obtain ⟨n'', h4, h5, h6⟩ := h'.tok k t s n' h1
  refine ⟨n'', h4, Nat.le_trans h2 h5, fun he => ?_⟩
  have e1 : n' = n := by omega
  obtain ⟨g1, g2⟩ := h3 e1
  obtain ⟨g3, g4⟩ := h6 (by omega)
  refine ⟨g3.trans g1, fun b hb => ?_⟩
  obtain ⟨g5, g6⟩ := g2 b hb
  obtain ⟨g7, g8⟩ := g4 b (by rw [g1]; exact hb)
  exact ⟨g7.trans g5, g8.trans g6⟩

/-- what ends a function: the state that it goes on from, and what its result then is -/
def Ends (mo : Bool) (n : Nat) (w0 : World) (F0 : Nat → Nat) (g : G) (e : Env) (_b : List ABox) (f : Fr) (a : Act) (w : World) (v : Value) (k : AV → List ABox → Fr → Prop) : Prop :=
  ∃ g' x b' f', Sim mo n w0 F0 [] g' ⟨e, b', f'⟩ a w ∧ k x b' f' ∧ Rep w0.heap.size w g'.F g'.tok f' g'.box x v ∧ Later w g.F g.tok f w g'.F g'.tok f' ∧ g'.box = g.box

theorem finVal_sound {g : G} {e : Env} {b : List ABox} {f : Fr} {a : Act} {w : World} (hs : Sim mo n w0 F0 [] g ⟨e, b, f⟩ a w) {u : Value} {k : AV → List ABox → Fr → Prop} (h : FinVal u b f k) {v : Value}
    (hx : RepT w0.heap.size w g.F g.tok f g.box (.val u) v) : Ends mo n w0 F0 g e b f a w v k := by
  rcases h with hk | ⟨t, sz, rfl, hk⟩
  · exact ⟨g, _, b, f, hs, hk, hx.plain (by simp), Later.refl _ _ _ _, rfl⟩
  · have hv := hx.val_inv
    subst hv
    have htl := hs.toklen
    simp only at htl
    have tokcase : ∀ {q b' : Nat}, (g.tok ++ [none])[q]? = some (some b') → g.tok[q]? = some (some b') := fun {q b'} h => by
      rcases getElem?_append_one h with h | ⟨_, h'⟩
      · exact h
      · cases h'
    have L : Later w g.F g.tok f w g.F (g.tok ++ [none]) (f ++ [(t, sz, 0)]) := by
      refine ⟨fun _ _ _ => rfl, fun _ => Nat.le_refl _, fun q t s n hq => ?_⟩
      have hlt := getElem?_lt hq
      exact ⟨n, by rw [List.getElem?_append_left hlt]; exact hq, Nat.le_refl _, fun _ => ⟨by rw [List.getElem?_append_left (by omega)], fun b' hb' => ⟨rfl, rfl⟩⟩⟩
    refine ⟨{ F := g.F, tok := g.tok ++ [none], box := g.box }, _, b, _, { hs with
      env := hs.env.later L (fun _ _ h => h)
      boxrep := hs.boxrep.later L (fun _ _ _ _ _ => rfl)
      toklen := by simp [htl]
      tokin := fun q b' hq => hs.tokin q b' (tokcase hq)
      tokbox := fun q b' i c' hq hi => hs.tokbox q b' i c' (tokcase hq) hi
      tokinj := fun q q' b' hq hq' => hs.tokinj q q' b' (tokcase hq) (tokcase hq') }, hk, ?_, L, rfl⟩
    refine .list (some f.length) [] none 0 sz 0 0 (fun _ _ => undef) (Nat.le_refl _) (fun h => absurd rfl h) (by simp) (fun h => absurd rfl h) (by simp) (by simp) (fun q hq => ?_)
    cases hq
    exact ⟨t, sz, 0, by simp, Nat.le_refl _, fun _ => ⟨rfl, ⟨[], World.ownsRow_nil w _ t sz⟩, by rw [← htl]; simp, by simp⟩⟩

theorem fin0_sound {g : G} {e : Env} {b : List ABox} {f : Fr} {a : Act} {w : World} (hs : Sim mo n w0 F0 [] g ⟨e, b, f⟩ a w) {x : AV} {k : AV → List ABox → Fr → Prop} (h : fin0 x b f k) {v : Value}
    (hx : RepT w0.heap.size w g.F g.tok f g.box x v) : Ends mo n w0 F0 g e b f a w v k := by
  cases x with
  | bsl j m => exact freeze_sound hs h (hx.plain (by simp))
  | val u => exact finVal_sound hs h hx
  | cond g y => exact Stop.no h
  | _ => exact ⟨g, _, b, f, hs, h, hx.plain (by simp), Later.refl _ _ _ _, rfl⟩

theorem finL_sound {e : Env} {a : Act} {w : World} (one : AV → List ABox → Fr → (AV → List ABox → Fr → Prop) → Prop)  (all : List AV → List ABox → Fr → (List AV → List ABox → Fr → Prop) → Prop)
    (h0 : ∀ b f k, all [] b f k → k [] b f) (h1 : ∀ c cs b f k, all (c :: cs) b f k → one c b f fun c b f => all cs b f fun cs b f => k (c :: cs) b f)
    (hone : ∀ {g : G} {b : List ABox} {f : Fr}, Sim mo n w0 F0 [] g ⟨e, b, f⟩ a w → ∀ {x : AV} {k : AV → List ABox → Fr → Prop}, one x b f k → ∀ {v : Value}, RepT w0.heap.size w g.F g.tok f g.box x v → Ends mo n w0 F0 g e b f a w v k) :
    ∀ (xs : List AV) {g : G} {b : List ABox} {f : Fr}, Sim mo n w0 F0 [] g ⟨e, b, f⟩ a w → ∀ {k : List AV → List ABox → Fr → Prop}, all xs b f k → ∀ {vs : List Value}, Both (RepT w0.heap.size w g.F g.tok f g.box) xs vs →
      ∃ g' ys b' f', Sim mo n w0 F0 [] g' ⟨e, b', f'⟩ a w ∧ k ys b' f' ∧ Both (Rep w0.heap.size w g'.F g'.tok f' g'.box) ys vs ∧ Later w g.F g.tok f w g'.F g'.tok f' ∧ g'.box = g.box
  | [], g, b, f, hs, k, h, [], _ => ⟨g, [], b, f, hs, h0 _ _ _ h, ⟨rfl, by simp⟩, Later.refl _ _ _ _, rfl⟩
  | [], _, _, _, _, _, _, _ :: _, hb => by simp [Both] at hb
  | _ :: _, _, _, _, _, _, _, [], hb => by simp [Both] at hb
  | x :: xs, g, b, f, hs, k, h, v :: vs, hb => by
    obtain ⟨b1, b2⟩ := Both.cons.1 hb
    obtain ⟨g', x', b', f', S, hk, hx, L, hbx⟩ := hone hs (h1 _ _ _ _ _ h) b1
    have b2' : Both (RepT w0.heap.size w g'.F g'.tok f' g'.box) xs vs := ⟨b2.1, fun i y u hy hu => (b2.2 i y u hy hu).later L (fun j d h => by rw [hbx]; exact h)⟩
    obtain ⟨g'', ys, b'', f'', S', hk', hys, L', hbx'⟩ := finL_sound one all h0 h1 hone xs S hk b2'
    exact ⟨g'', x' :: ys, b'', f'', S', hk', Both.cons.2 ⟨hx.later L' (fun j d h => by rw [hbx']; exact h), hys⟩, L.trans L', hbx'.trans hbx⟩

/-- what a box holds, said in other words -/
theorem Sim.reBox {g : G} {e : Env} {b : List ABox} {f : Fr} {a : Act} {w : World} (hs : Sim mo n w0 F0 [] g ⟨e, b, f⟩ a w) {j : Nat} {x y : ABox} (hx : b[j]? = some x) (hxd : x ≠ .dead) (hyd : y ≠ .dead)
    (h : ∀ d, g.box[j]? = some d → BoxOk w0.heap.size w g.F g.tok f g.box d y) : Sim mo n w0 F0 [] g ⟨e, b.set j y, f⟩ a w := by
  have hl : live b j := fun h => by rw [hx] at h; exact hxd (Option.some.inj h)
  exact { hs with
    boxlen := by simpa using hs.boxlen
    boxF := fun i b c hi hl' => hs.boxF i b c hi ((live_set hyd hl).1 hl')
    boxrep := fun i d z hd hz => by
      simp only [List.getElem?_set] at hz
      by_cases hij : j = i
      · subst hij
        rw [if_pos rfl] at hz
        split at hz
        · cases hz; exact h d hd
        · cases hz
      · rw [if_neg hij] at hz
        exact hs.boxrep i d z hd hz
    boxinj := fun i i' b c c' hi hi' l l' => hs.boxinj i i' b c c' hi hi' ((live_set hyd hl).1 l) ((live_set hyd hl).1 l')
    tokbox := fun q b i c hq hi hl' => hs.tokbox q b i c hq hi ((live_set hyd hl).1 hl') }

theorem freezeD_sound {e : Env} {a : Act} {w : World} (one : AV → List ABox → Fr → (AV → List ABox → Fr → Prop) → Prop)
    (hone : ∀ {g : G} {b : List ABox} {f : Fr}, Sim mo n w0 F0 [] g ⟨e, b, f⟩ a w → ∀ {x : AV} {k : AV → List ABox → Fr → Prop}, one x b f k → ∀ {v : Value}, RepT w0.heap.size w g.F g.tok f g.box x v → Ends mo n w0 F0 g e b f a w v k)
    {g : G} {b : List ABox} {f : Fr} (hs : Sim mo n w0 F0 [] g ⟨e, b, f⟩ a w) {j m : Nat} {k : AV → List ABox → Fr → Prop} (h : FreezeD one b f j m k) {v : Value}
    (hx : Rep w0.heap.size w g.F g.tok f g.box (.bsl j m) v) : Ends mo n w0 F0 g e b f a w v k := by
  rcases h with h | ⟨t, sz, cs, h1, hk⟩
  · exact freeze_sound hs h hx
  · rcases hx.bsl_inv with ⟨bl, cap, hb, hcap, rfl⟩ | ⟨hb, hz, rfl⟩
    · obtain ⟨c, t', hh, hle, hr, rfl, hcs, hcm⟩ := hs.boxrep j _ _ hb h1
      have hget : ∀ i, i < cs.length → (c.toList.take cs.length)[i]? = some (c.getD i undef) := fun i hi => by
        have : i < c.size := by omega
        rw [List.getElem?_take, if_pos hi]; simp [Array.getD, this]
      have hB : Both (RepT w0.heap.size w g.F g.tok f g.box) cs (c.toList.take cs.length) := ⟨by simp; omega, fun i x u hx hu => by
        rw [hget i (getElem?_lt hx)] at hu; cases hu; exact .rep _ _ (hr i x hx).1⟩
      obtain ⟨g', ys, b', f', S, ⟨hb1, hF⟩, hys, L, hbx⟩ := finL_sound one (finL one) (fun _ _ _ h => h) (fun _ _ _ _ _ h => h) hone cs hs hk hB
      have hyl : ys.length = cs.length := by have := hys.1; simp at this; omega
      have S' := S.reBox (y := .cells (.row t' sz) ys) hb1 (by simp) (by simp) (fun d hd => by
        rw [hbx, hb] at hd; cases hd
        refine ⟨c, t', hh, by omega, fun i x hx => ⟨?_, ?_⟩, rfl, hcs, hcm⟩
        · have hi := getElem?_lt hx
          exact hys.2 i x _ hx (hget i (by omega))
        · have hi := getElem?_lt hx
          exact (hr i _ (List.getElem?_eq_getElem (by omega))).2)
      obtain ⟨g'', x, b'', f'', S'', hk'', hx'', L'', hbx''⟩ := freeze_sound S' hF (v := .slice (some ⟨bl, 0, none⟩) m cap) (.bsl j m bl cap (by rw [hbx]; exact hb) hcap)
      exact ⟨g'', x, b'', f'', S'', hk'', hx'', L.trans L'', hbx''.trans hbx⟩
    · have h0 : cs = [] := hs.boxrep j _ _ hb h1
      subst h0
      obtain ⟨_, hF⟩ := hk
      have e1 : b.set j (.cells (.row t sz) []) = b := by
        apply List.ext_getElem?
        intro i
        rw [List.getElem?_set]
        split
        · rename_i h; subst h; rw [if_pos (getElem?_lt h1), h1]
        · rfl
      rw [e1] at hF
      exact freeze_sound hs hF hx

theorem finS_sound {e : Env} {a : Act} {w : World} (one : AV → List ABox → Fr → (AV → List ABox → Fr → Prop) → Prop)
    (hone : ∀ {g : G} {b : List ABox} {f : Fr}, Sim mo n w0 F0 [] g ⟨e, b, f⟩ a w → ∀ {x : AV} {k : AV → List ABox → Fr → Prop}, one x b f k → ∀ {v : Value}, RepT w0.heap.size w g.F g.tok f g.box x v → Ends mo n w0 F0 g e b f a w v k)
    {g : G} {b : List ABox} {f : Fr} (hs : Sim mo n w0 F0 [] g ⟨e, b, f⟩ a w) {x : AV} {k : AV → List ABox → Fr → Prop} (h : finS one x b f k) {v : Value}
    (hx : RepT w0.heap.size w g.F g.tok f g.box x v) : Ends mo n w0 F0 g e b f a w v k := by
  cases x with
  | bsl j m => exact freezeD_sound one hone hs h (hx.plain (by simp))
  | val u => exact finVal_sound hs h hx
  | cond g y => exact Stop.no h
  | agg cs =>
    have hx' := hx.agg_inv
    rcases (h : FinAgg one cs b f k) with hk | hk
    · exact ⟨g, _, b, f, hs, hk, hx', Later.refl _ _ _ _, rfl⟩
    · cases hx' with
      | agg _ vs hl h1 hr =>
        have hb : Both (RepT w0.heap.size w g.F g.tok f g.box) cs vs.toList := ⟨by simpa using hl, fun i x u hx hu => by
          have hu' : vs[i]? = some u := by simpa using hu
          have hi := (Array.getElem?_eq_some_iff.1 hu').1
          have e1 : vs.getD i undef = u := by simp [Array.getD, hi, (Array.getElem?_eq_some_iff.1 hu').2]
          exact .rep _ _ (e1 ▸ hr i x hx)⟩
        obtain ⟨g', ys, b', f', S, hk', hys, L, hbx⟩ := finL_sound one (finL one) (fun _ _ _ h => h) (fun _ _ _ _ _ h => h) hone cs hs hk hb
        refine ⟨g', _, b', f', S, hk', .agg ys vs (by have := hys.1; simpa using this) h1 (fun i c hc => ?_), L, hbx⟩
        have hi : i < vs.size := by have := getElem?_lt hc; have := hys.1; simp at this; omega
        exact hys.2 i c _ hc (by simp [Array.getD, hi])
  | _ => exact ⟨g, _, b, f, hs, h, hx.plain (by simp), Later.refl _ _ _ _, rfl⟩

theorem fin1_sound {g : G} {e : Env} {b : List ABox} {f : Fr} {a : Act} {w : World} (hs : Sim mo n w0 F0 [] g ⟨e, b, f⟩ a w) {x : AV} {k : AV → List ABox → Fr → Prop} (h : fin1 x b f k) {v : Value}
    (hx : RepT w0.heap.size w g.F g.tok f g.box x v) : Ends mo n w0 F0 g e b f a w v k :=
  finS_sound _ (fun hs _ _ h _ hx => finS_sound _ (fun hs _ _ h _ hx => finS_sound _ (fun hs _ _ h _ hx => fin0_sound hs h hx) hs h hx) hs h hx) hs h hx

/-- the call begins -/
theorem Sim.start {fn : Func} {args : List AV} {b0 : List ABox} {box0 : List BId} (hn : args.length ≤ fn.ntmps) (w : World) (F : Nat → Nat) (vs : Array Value) (hout : ∀ b, w.heap.size ≤ b → F b = 0) (hbl : box0.length = b0.length)
    (hbi : ∀ (j b c : Nat), box0[j]? = some (.blk b c) → b < w.heap.size ∧ F b = 0) (hbj : ∀ (i j b c c' : Nat), box0[i]? = some (.blk b c) → box0[j]? = some (.blk b c') → i = j)
    (hbr : BoxesOk w.heap.size w F [] [] box0 b0) (hargs : Both (Rep w.heap.size w F [] [] box0) args vs.toList) :
    Sim mo fn.ntmps w F box0 ⟨F, [], box0⟩ ⟨argEnv 0 args, b0, []⟩ { tmps := vs ++ Array.replicate (fn.ntmps - vs.size) undef, defers := [] } w := by
  have hvs : vs.size = args.length := by have := hargs.1; simpa using this.symm
  exact {
    defers := rfl
    size := by simp; omega
    env := fun i => by
      rw [look_argEnv, if_pos (Nat.zero_le _), Nat.sub_zero]
      cases hi : args[i]? with
      | none => exact .rep _ _ (.any _)
      | some x =>
        have hlt := getElem?_lt hi
        have hv : (vs ++ Array.replicate (fn.ntmps - vs.size) undef).getD i undef = vs[i]'(by omega) := by
          have h1 : i < vs.size := by omega
          have h2 : i < vs.size + (fn.ntmps - vs.size) := by omega
          simp [Array.getD, h1, h2]
        rw [hv]
        exact .rep _ _ (hargs.2 i x _ hi (by rw [Array.getElem?_toList]; simp [hvs, hlt]))
    below := Keep.refl _ _
    old := fun _ _ => rfl
    out := hout
    boxlen := hbl
    boxpre := fun _ _ h => h
    boxin := fun j b c h => ⟨.inr ⟨j, h⟩, (hbi j b c h).1⟩
    boxF := fun j b c h _ => (hbi j b c h).2
    boxrep := hbr
    boxinj := fun i j b c c' hi hj _ _ => hbj i j b c c' hi hj
    toklen := rfl
    tokin := by simp
    tokbox := by simp
    tokinj := by simp }

/-- the results' value -/
theorem results_run {fn : Func} {a : Act} {w : World} {us : List Value} (hr : (fn.results.toList.mapM (resRun a)).run P w = .ok us w) :
    (results fn a.tmps).run P w = .ok (if h : us.toArray.size = 1 then us.toArray[0] else .tuple us.toArray) w := by
  have e1 : results fn a.tmps = (do let vs ← fn.results.mapM (resRun a); pure (if h : vs.size = 1 then vs[0] else .tuple vs)) := by
    unfold results
    rfl
  rw [e1, Array.mapM_eq_mapM_toList]
  simp only [Sem.run_bind, Sem.run_map, hr, Result.andThen_ok, Sem.run_pure]

theorem rep_tuple {B : Nat} {w : World} {F : Nat → Nat} {tok : List (Option Nat)} {fr : Fr} {box : List BId} {xs : List AV} {us : List Value} (h : Both (Rep B w F tok fr box) xs us) (h1 : us.length ≠ 1) :
    Rep B w F tok fr box (.tup xs) (if h : us.toArray.size = 1 then us.toArray[0] else .tuple us.toArray) := by
  rw [dif_neg (by simpa using h1)]
  refine .tup _ _ (by simpa using h.1) (fun i c hc => ?_)
  have hi := getElem?_lt hc
  have hl := h.1
  have hi' : i < us.length := by omega
  have e1 : us.toArray.getD i undef = us[i] := by simp [Array.getD, hi']
  rw [e1]
  exact h.2 i c _ hc (List.getElem?_eq_getElem hi')

theorem many {rs : List ResultVar} {a : Act} {w : World} {us : List Value} (hr : (rs.mapM (resRun a)).run P w = .ok us w) (hne : ∀ r, rs.map (cRes P) = [r] → False) : us.length ≠ 1 := fun h2 => by
  have h3 := mapM_len hr
  match hfr : rs, h3 with
  | [rv], _ => exact hne (cRes P rv) rfl
  | [], h3 => rw [h2] at h3; cases h3
  | _ :: _ :: _, h3 => rw [h2] at h3; simp at h3

theorem one {rs : List ResultVar} {r : RRes} (hrs : rs.map (cRes P) = [r]) : ∃ rv, rs = [rv] ∧ cRes P rv = r := by
  match rs, hrs with
  | [rv], hrs => exact ⟨rv, rfl, by simpa using hrs⟩

/-- From a function's code to its calls. -/
theorem calls_of_code {fid : Nat} {fn : Func} {c : Code} {args : List AV} {Φ : AV → List ABox → Fr → Prop} (hf : P.funcs[fid]? = some fn) (hb : fn.body = some c) (hn : args.length ≤ fn.ntmps) (K : List Nat)
    (h : aCode (ACon mo P) K 0 (cCode P fn.ntmps c) (doneG (fn.results.toList.map (cRes P)) Φ) ⟨argEnv 0 args, [], []⟩)
    (w : World) (F : Nat → Nat) (vs : Array Value) (hout : ∀ b, w.heap.size ≤ b → F b = 0) (hargs : Both (Rep w.heap.size w F [] [] []) args vs.toList) :
    Calls P fid vs w fun e w' => ∃ (v : Value) (F' : Nat → Nat) (tok : List (Option Nat)) (box : List BId) (r : AV) (b : List ABox) (frs : Fr), Φ r b frs ∧ e = .returned v ∧ Bel mo w.heap.size w w' ∧ (∀ b, b < w.heap.size → F' b = F b) ∧
      (∀ b, w'.heap.size ≤ b → F' b = 0) ∧ tok.length = frs.length ∧ (∀ (k b : Nat), tok[k]? = some (some b) → w.heap.size ≤ b ∧ b < w'.heap.size) ∧
      (∀ (k l b : Nat), tok[k]? = some (some b) → tok[l]? = some (some b) → k = l) ∧ Rep w.heap.size w' F' tok frs box r v := by
  refine calls_of_wp hf hb ?_
  have S := Sim.start (mo := mo) (fn := fn) (b0 := []) (box0 := []) hn w F vs hout rfl (by simp) (by simp) (fun j d x h => by simp at h) hargs
  refine wp_mono (aCode_sound (n := fn.ntmps) (w0 := w) (F0 := F) (box0 := []) K c _ _ h _ _ _ S) ?_
  rintro e a' w' ⟨g', s', S', hq⟩
  obtain ⟨se, sb, sf⟩ := s'
  have out : ∀ (us : List Value), (fn.results.toList.mapM (resRun a')).run P w' = .ok us w' → Ends mo fn.ntmps w F g' se sb sf a' w' (if h : us.toArray.size = 1 then us.toArray[0] else .tuple us.toArray) Φ →
      a'.defers = [] ∧ ∃ v, (results fn a'.tmps).run P w' = .ok v w' ∧ ∃ (v' : Value) (F' : Nat → Nat) (tok : List (Option Nat)) (box : List BId) (r : AV) (b : List ABox) (frs : Fr), Φ r b frs ∧ Ending.returned v = .returned v' ∧ Bel mo w.heap.size w w' ∧ (∀ b, b < w.heap.size → F' b = F b) ∧
        (∀ b, w'.heap.size ≤ b → F' b = 0) ∧ tok.length = frs.length ∧ (∀ (k b : Nat), tok[k]? = some (some b) → w.heap.size ≤ b ∧ b < w'.heap.size) ∧
        (∀ (k l b : Nat), tok[k]? = some (some b) → tok[l]? = some (some b) → k = l) ∧ Rep w.heap.size w' F' tok frs box r v' := by
    rintro us hr ⟨g2, x, b2, f2, S2, hx, hrep, _, _⟩
    exact ⟨S'.defers, _, results_run hr, _, g2.F, g2.tok, g2.box, x, b2, f2, hx, rfl, S2.below.below, S2.old, S2.out, S2.toklen, S2.tokin, S2.tokinj, hrep⟩
  have fin : outK (fn.results.toList.map (cRes P)) ⟨se, sb, sf⟩ Φ → a'.defers = [] ∧ ∃ v, (results fn a'.tmps).run P w' = .ok v w' ∧ ∃ (v' : Value) (F' : Nat → Nat) (tok : List (Option Nat)) (box : List BId) (r : AV) (b : List ABox) (frs : Fr), Φ r b frs ∧ Ending.returned v = .returned v' ∧ Bel mo w.heap.size w w' ∧ (∀ b, b < w.heap.size → F' b = F b) ∧
        (∀ b, w'.heap.size ≤ b → F' b = 0) ∧ tok.length = frs.length ∧ (∀ (k b : Nat), tok[k]? = some (some b) → w.heap.size ≤ b ∧ b < w'.heap.size) ∧
        (∀ (k l b : Nat), tok[k]? = some (some b) → tok[l]? = some (some b) → k = l) ∧ Rep w.heap.size w' F' tok frs box r v' := fun hq => by
    unfold outK at hq
    split at hq
    · rename_i r hrs
      obtain ⟨rv, hrv, rfl⟩ := one hrs
      obtain ⟨x, v, hk, hx, hr⟩ := res_one (P := P) S' hq
      have hm : (fn.results.toList.mapM (resRun a')).run P w' = .ok [v] w' := by
        rw [hrv]; simp only [List.mapM_cons, List.mapM_nil, Sem.run_bind, Sem.run_pure, hr, Result.andThen_ok]
      exact out [v] hm (fin1_sound S' hk hx)
    · rename_i hne
      obtain ⟨xs, us, hk, hb', hr⟩ := res_all (P := P) S' fn.results.toList hq
      obtain ⟨g2, ys, b2, f2, S2, hk2, hys, L, hbx⟩ := finL_sound fin1 finAll (fun _ _ _ h => h) (fun _ _ _ _ _ h => h) (fun hs _ _ h _ hx => fin1_sound hs h hx) xs S' hk hb'
      exact out us hr ⟨g2, _, b2, f2, S2, hk2, rep_tuple hys (many hr hne), L, hbx⟩
  cases e with
  | normal => exact fin hq
  | ret => exact fin hq
  | _ => exact Stop.no hq

theorem ARet.of_code {fid : Nat} {fn : Func} {c : Code} {args : List AV} {r : AV} {frs : Fr} (hok : okFn P fid = true) (hf : P.funcs[fid]? = some fn) (hb : fn.body = some c) (hn : args.length ≤ fn.ntmps) (K : List Nat)
    (h : aCode (ACon mo P) K 0 (cCode P fn.ntmps c) (doneK (fn.results.toList.map (cRes P)) r frs) ⟨argEnv 0 args, [], []⟩) : ARet mo P fid args r frs := by
  refine ⟨hok, fun w F vs hout hargs => ?_⟩
  refine (calls_of_code (Φ := fun x _ f => Final x r f frs) hf hb hn K h w F vs hout hargs).mono ?_
  rintro e w' ⟨v, F', tok, box, r', b', frs', ⟨rfl, rfl⟩, h1⟩
  exact ⟨v, F', tok, box, h1⟩

theorem ARet.of_code_scal {fid : Nat} {fn : Func} {c : Code} {args : List AV} {r : AV} (hr : isScalR r = true) (hok : okFn P fid = true) (hf : P.funcs[fid]? = some fn) (hb : fn.body = some c) (hn : args.length ≤ fn.ntmps) (K : List Nat)
    (h : aCode (ACon mo P) K 0 (cCode P fn.ntmps c) (doneS (fn.results.toList.map (cRes P)) r) ⟨argEnv 0 args, [], []⟩) : ARet mo P fid args r [] := by
  refine ⟨hok, fun w F vs hout hargs => ?_⟩
  refine (calls_of_code (Φ := fun x _ _ => Final x r [] []) hf hb hn K h w F vs hout hargs).mono ?_
  rintro e w' ⟨v, F', tok, box, r', b', frs', ⟨rfl, _⟩, rfl, h1, h2, h3, _, _, _, h7⟩
  obtain ⟨v0, hv0⟩ := scalR_rep hr
  obtain rfl := hv0.2 v h7
  exact ⟨v, F', [], [], rfl, h1, h2, h3, rfl, by simp, by simp, hv0.1⟩

def okB (m : Nat) : ABox → Prop
  | .cells _ cs => ∀ c ∈ cs, noTk c = true ∧ inB m c
  | _ => True
theorem inBL_all {m : Nat} : ∀ {cs : List AV}, (∀ c ∈ cs, noTk c = true ∧ inB m c) → noTkL cs = true ∧ inB.inBL m cs
  | [], _ => ⟨rfl, trivial⟩
  | c :: cs, h => by
    obtain ⟨h1, h2⟩ := inBL_all (cs := cs) (fun c hc => h c (by simp [hc]))
    exact ⟨by rw [noTkL, (h c (by simp)).1, h1]; rfl, (h c (by simp)).2, h2⟩
mutual
theorem gv_ok : ∀ (x : Tr) (n m : Nat), n + nb x ≤ m → noTk (gv x n) = true ∧ inB m (gv x n)
  | .v _, _, _, _ => ⟨rfl, trivial⟩
  | .s _, _, _, _ => ⟨rfl, trivial⟩
  | .l _ _ xs, n, m, h => ⟨rfl, by rw [nb] at h; show n < m; omega⟩
  | .a fs, n, m, h => inBL_all (gvL_ok fs n m (by simpa [nb] using h))
  | .p fs, n, m, h => inBL_all (gvL_ok fs n m (by simpa [nb] using h))
theorem gvL_ok : ∀ (xs : List Tr) (n m : Nat), n + nbL xs ≤ m → ∀ c ∈ gvL xs n, noTk c = true ∧ inB m c
  | [], _, _, _, c, hc => by simp [gvL] at hc
  | x :: xs, n, m, h, c, hc => by
    rw [nbL] at h
    rw [gvL] at hc
    rcases List.mem_cons.1 hc with rfl | hc
    · exact gv_ok x n m (by omega)
    · exact gvL_ok xs (n + nb x) m (by omega) c hc
end
mutual
theorem gb_ok : ∀ (x : Tr) (n m : Nat), n + nb x ≤ m → ∀ b ∈ gb x n, okB m b
  | .v _, _, _, _, b, hb => by simp [gb] at hb
  | .s _, _, _, _, b, hb => by simp [gb] at hb
  | .l t sz xs, n, m, h, b, hb => by
    rw [nb] at h
    rw [gb] at hb
    rcases List.mem_cons.1 hb with rfl | hb
    · show ∀ c ∈ gvLL xs (n + 1), _
      rw [gvLL_flatten]
      exact gvL_ok _ _ _ (by rw [← nbLL_flatten]; omega)
    · exact gbLL_ok xs (n + 1) m (by omega) b hb
  | .a fs, n, m, h, b, hb => gbL_ok fs n m (by simpa [nb] using h) b (by rw [gb] at hb; exact hb)
  | .p fs, n, m, h, b, hb => gbL_ok fs n m (by simpa [nb] using h) b (by rw [gb] at hb; exact hb)
theorem gbL_ok : ∀ (xs : List Tr) (n m : Nat), n + nbL xs ≤ m → ∀ b ∈ gbL xs n, okB m b
  | [], _, _, _, b, hb => by simp [gbL] at hb
  | x :: xs, n, m, h, b, hb => by
    rw [nbL] at h
    rw [gbL] at hb
    rcases List.mem_append.1 hb with hb | hb
    · exact gb_ok x n m (by omega) b hb
    · exact gbL_ok xs (n + nb x) m (by omega) b hb
theorem gbLL_ok : ∀ (xs : List (List Tr)) (n m : Nat), n + nbLL xs ≤ m → ∀ b ∈ gbLL xs n, okB m b
  | [], _, _, _, b, hb => by simp [gbLL] at hb
  | x :: xs, n, m, h, b, hb => by
    rw [nbLL] at h
    rw [gbLL] at hb
    rcases List.mem_append.1 hb with hb | hb
    · exact gbL_ok x n m (by omega) b hb
    · exact gbLL_ok xs (n + nbL x) m (by omega) b hb
end

theorem TRet.of_code {fid : Nat} {fn : Func} {c : Code} {b0 : List ABox} {x' : Tr} {args : List AV} {r : AV} (hr : isScalR r = true) (hok : okFn P fid = true) (hf : P.funcs[fid]? = some fn) (hb : fn.body = some c) (hn : args.length ≤ fn.ntmps) (K : List Nat)
    (hx : nb x' = b0.length) (h : aCode (ACon mo P) K b0.length (cCode P fn.ntmps c) (doneT (fn.results.toList.map (cRes P)) b0.length r (gb x' 0)) ⟨argEnv 0 args, b0, []⟩) : TRet mo P fid b0 args r (gb x' 0) := by
  refine ⟨hok, fun w F vs box0 hout hbl hbi hbj hbr hargs => ?_⟩
  refine calls_of_wp hf hb ?_
  have S := Sim.start (mo := mo) (fn := fn) hn w F vs hout hbl hbi hbj hbr hargs
  rw [← hbl] at h
  refine wp_mono (aCode_sound (n := fn.ntmps) (w0 := w) (F0 := F) (box0 := box0) K c _ _ h _ _ _ S) ?_
  rintro e a' w' ⟨g', s', S', hq⟩
  obtain ⟨v0, hv0⟩ := scalR_rep hr
  have htake : g'.box.take box0.length = box0 := by
    apply List.ext_getElem?
    intro i
    rw [List.getElem?_take]
    by_cases hi : i < box0.length
    · rw [if_pos hi, List.getElem?_eq_getElem hi]; exact S'.boxpre i _ (List.getElem?_eq_getElem hi)
    · rw [if_neg hi, List.getElem?_eq_none (by omega)]
  have done : ∀ {us : List Value} {x : AV}, (fn.results.toList.mapM (resRun a')).run P w' = .ok us w' → RepT w.heap.size w' g'.F g'.tok s'.fr g'.box x (if h : us.toArray.size = 1 then us.toArray[0] else .tuple us.toArray) → FinalT x r (s'.bx.take box0.length) (gb x' 0) →
      a'.defers = [] ∧ ∃ v, (results fn a'.tmps).run P w' = .ok v w' ∧ ∃ (v' : Value) (F' : Nat → Nat), Ending.returned v = .returned v' ∧ Keep mo box0 w w' ∧ (∀ b, b < w.heap.size → F' b = F b) ∧ (∀ b, w'.heap.size ≤ b → F' b = 0) ∧
        BoxesOk w.heap.size w' F' [] [] box0 (gb x' 0) ∧ Rep w.heap.size w' F' [] [] box0 r v' := by
    rintro us x hr' hrep ⟨rfl, hbx⟩
    have hv := hv0.2 _ (hrep.plain (fun g y he => by rw [he] at hr; cases hr))
    refine ⟨S'.defers, _, results_run hr', _, g'.F, rfl, S'.below, S'.old, S'.out, fun j d y hd hy => ?_, by rw [hv]; exact hv0.1⟩
    have hj : j < box0.length := getElem?_lt hd
    have hy' : s'.bx[j]? = some y := by rw [← hbx, List.getElem?_take, if_pos hj] at hy; exact hy
    have hok' := gb_ok x' 0 box0.length (by omega) y (List.mem_of_getElem? hy)
    have h0 := S'.boxrep j d y (S'.boxpre j d hd) hy'
    cases d with
    | blk b c =>
      cases y with
      | cells k cs =>
        obtain ⟨c', t, h1, h2, h3, h4⟩ := h0
        refine ⟨c', t, h1, h2, fun i z hz => ⟨?_, (h3 i z hz).2⟩, h4⟩
        obtain ⟨o1, o2⟩ := hok' z (List.mem_of_getElem? hz)
        have := ((h3 i z hz).1.take o2).noTk (B' := w.heap.size) o1
        rw [htake] at this; exact this
      | iter s p => exact h0
      | dead => exact trivial
    | nil =>
      cases y with
      | cells k cs => exact h0
      | iter s p => exact h0
      | dead => exact trivial
  have fin : (match fn.results.toList.map (cRes P) with | [x] => resOne s' x fun x => FinalT x r (s'.bx.take box0.length) (gb x' 0) | rs => resAll s' rs fun xs => FinalT (.tup xs) r (s'.bx.take box0.length) (gb x' 0)) →
      a'.defers = [] ∧ ∃ v, (results fn a'.tmps).run P w' = .ok v w' ∧ ∃ (v' : Value) (F' : Nat → Nat), Ending.returned v = .returned v' ∧ Keep mo box0 w w' ∧ (∀ b, b < w.heap.size → F' b = F b) ∧ (∀ b, w'.heap.size ≤ b → F' b = 0) ∧
        BoxesOk w.heap.size w' F' [] [] box0 (gb x' 0) ∧ Rep w.heap.size w' F' [] [] box0 r v' := fun hq => by
    split at hq
    · rename_i r hrs
      obtain ⟨rv, hrv, rfl⟩ := one hrs
      obtain ⟨x, v, hk, hx, hr⟩ := res_one (P := P) S' hq
      have hm : (fn.results.toList.mapM (resRun a')).run P w' = .ok [v] w' := by
        rw [hrv]; simp only [List.mapM_cons, List.mapM_nil, Sem.run_bind, Sem.run_pure, hr, Result.andThen_ok]
      exact done hm hx hk
    · rename_i hne
      obtain ⟨xs, us, hk, hb', hr'⟩ := res_all (P := P) S' fn.results.toList hq
      have hxs : ∀ c ∈ xs, isScal c = true := by
        obtain ⟨h1, _⟩ := hk
        have hr2 : isScalR (.tup xs) = true := by rw [h1]; exact hr
        intro c hc
        exact List.all_eq_true.1 hr2 c hc
      have hb2 : Both (Rep w.heap.size w' g'.F g'.tok s'.fr g'.box) xs us := ⟨hb'.1, fun i x v hx hv => (hb'.2 i x v hx hv).plain (fun g y he => by have := hxs x (List.mem_of_getElem? hx); rw [he] at this; cases this)⟩
      exact done hr' (.rep _ _ (rep_tuple hb2 (many hr' hne))) hk
  cases e with
  | normal => exact fin hq
  | ret => exact fin hq
  | _ => exact Stop.no hq
end
end Abs
end Go.Proofs.Ytamcaplpgmloiaa
