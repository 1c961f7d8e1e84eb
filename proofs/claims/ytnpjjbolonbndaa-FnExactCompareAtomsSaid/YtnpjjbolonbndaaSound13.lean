/-
  Regions: in the order of the text, and in any order.
-/
import Derived.Test.YtnpjjbolonbndaaSound12
namespace Go.Proofs.Ytnpjjbolonbndaa
namespace Abs
open Go.RowKit

section
variable {P : Program} {n : Nat} {w0 : World} {F0 : Nat → Nat} {g : G} {e : Env} {bx : List ABox} {f : Fr} {a : Act} {w : World} {o : Oper}

theorem guard_sound {B : Nat} {F : Nat → Nat} {tok : List (Option Nat)} {fr : Fr} {box : List Nat} {ops : Array Oper} {j : Nat} {want : Bool} {K : Bool → Prop} (he : EnvOk B w F tok fr box e a)
    (hg : o.guard = some (j, want)) (hd : ((ops[j]?).bind (·.dst)).isSome = true) (hn : ∀ d, (ops[j]?).bind (·.dst) = some d → d < a.tmps.size)
    (h : guardOf want (look e (dstAt ops.toList j)) K) : ∃ gd, K gd ∧ Region.wanted o (yielded ops a.tmps) = gd := by
  obtain ⟨d, hd⟩ := Option.isSome_iff_exists.1 hd
  have hdn := hn d hd
  have hda : dstAt ops.toList j = d := by unfold dstAt; rw [Array.getElem?_toList, hd]; rfl
  rw [hda] at h
  have hx := he d
  have hget : a.tmps[d]? = some (a.tmps.getD d undef) := by simp [Array.getD, hdn]
  have hy : ∀ v, a.tmps.getD d undef = v → yielded ops a.tmps j = match v with | .bool b => some b | _ => none := fun v hv => by
    unfold yielded
    rw [hd]
    simp only [Option.bind_some, hget, hv]
    cases v <;> rfl
  unfold guardOf at h
  split at h
  · rename_i b hl
    rw [hl] at hx
    cases want with
    | true => exact ⟨_, h, by simp only [Region.wanted, hg, hy _ hx.val_inv]; cases b <;> rfl⟩
    | false => exact ⟨_, h, by simp only [Region.wanted, hg, hy _ hx.val_inv]; cases b <;> rfl⟩
  · rename_i gg b hl
    rw [hl] at hx
    cases gg with
    | true =>
      cases want with
      | true => exact ⟨_, h, by simp only [Region.wanted, hg, hy _ (hx.cond_inv.1 rfl).val_inv]; cases b <;> rfl⟩
      | false => exact ⟨_, h, by simp only [Region.wanted, hg, hy _ (hx.cond_inv.1 rfl).val_inv]; cases b <;> rfl⟩
    | false =>
      cases want with
      | true => exact ⟨_, h, by simp only [Region.wanted, hg, hy _ (hx.cond_inv.2 rfl), undef]; rfl⟩
      | false => exact ⟨_, h, by simp only [Region.wanted, hg, hy _ (hx.cond_inv.2 rfl), undef]; rfl⟩
  · exact h.no

theorem cOp_call {ops : List Oper} {fid : Nat} {args : List Operand} (h : cOp P ops o = .call fid args) :
    ∃ c fn, o.op = .call c ∧ c.callee = .value (.func fid) ∧ P.funcs[fid]? = some fn ∧ (fn.name == "runtime.NumGoroutine" || fn.body.isNone) = false ∧ args = c.args.toList := by
  unfold cOp at h
  cases hop : o.op <;> simp only [hop] at h
  case call c =>
    split at h
    · split at h
      · repeat' split at h
        all_goals cases h
      · split at h <;> cases h
      · cases h
    · rename_i v hc
      split at h
      · rename_i fid'
        split at h
        · rename_i fn hf
          split at h
          · cases h
          · rename_i hn
            cases h
            exact ⟨c, fn, rfl, hc, hf, Bool.eq_false_iff.2 hn, rfl⟩
        · cases h
      · cases h
    · cases h
  all_goals first | cases h | (repeat' split at h) <;> cases h

theorem scal_shift {x : AV} (h : isScal x = true) (f : Nat → Option Nat) : mapT f x = x := by
  cases x <;> first | rfl | cases h
theorem scals_shift (f : Nat → Option Nat) : ∀ {vs : List AV}, vs.all isScal = true → mapTL f vs = vs
  | [], _ => rfl
  | x :: vs, h => by
    simp only [List.all_cons, Bool.and_eq_true] at h
    rw [mapTL, scal_shift h.1, scals_shift f h.2]

theorem valsK_inv {r : AV} {frs : Fr} {k : AV → Prop} (h : valsK r frs k) : frs = [] ∧ k r ∧ (∀ m, shift m r = r) ∧ (isScal r = true ∨ ∃ vs, r = .tup vs ∧ vs.all isScal = true) := by
  unfold valsK at h
  split at h
  · split at h
    · exact ⟨rfl, h, fun _ => rfl, .inl rfl⟩
    · exact ⟨rfl, h, fun _ => rfl, .inl rfl⟩
    · split at h
      · rename_i vs hv
        exact ⟨rfl, h, fun m => by show AV.tup (mapTL _ _) = _; rw [scals_shift _ hv], .inr ⟨_, rfl, hv⟩⟩
      · exact h.no
    · exact h.no
  · exact h.no

/-- the value of a plain abstract value -/
def scalV (x : AV) : Value := match x with | .val v => v | .str s => mkS s | _ => undef
theorem scal_rep {x : AV} (h : isScal x = true) {B : Nat} {w : World} {F : Nat → Nat} {tok : List (Option Nat)} {fr : Fr} : Rep B w F tok fr x (scalV x) := by
  cases x <;> first | exact .val _ | exact .str _ | cases h
theorem scal_uniq {x : AV} (h : isScal x = true) {B : Nat} {w : World} {F : Nat → Nat} {tok : List (Option Nat)} {fr : Fr} {v : Value} (hr : Rep B w F tok fr x v) : v = scalV x := by
  cases hr <;> first | rfl | cases h

theorem aQuiet_leads (ops : List Oper) (hs : Sim n w0 F0 g ⟨e, bx, f⟩ a w) {k : AV → Prop} (h : aQuiet (ARet P) (cOp P ops o) true e bx k) : Leads P n w0 F0 e a o w (fun x bx' f' => bx' = bx ∧ f' = f ∧ k x) := by
  unfold aQuiet at h
  simp only [erases_eq] at h
  split at h
  · rename_i fid args hop
    obtain ⟨c, fn, h1, h2, h3, h4, rfl⟩ := cOp_call hop
    refine leads_call hs h1 h2 h3 h4 ?_
    have mono : ∀ {l : List Operand} {k1 k2 : List AV → Prop}, (∀ vs, k1 vs → k2 vs) → evs true e l k1 → evs true e l k2 := by
      intro l
      induction l with
      | nil => intro k1 k2 hk h; exact hk _ h
      | cons x l ih =>
        intro k1 k2 hk h
        unfold evs evG unG at h ⊢
        generalize ev e x = y at h ⊢
        cases y with
        | cond gg y => exact ⟨h.1, ih (fun vs h => hk _ h) h.2⟩
        | _ => exact ih (fun vs h => hk _ h) h
    refine mono (fun vs hv => ?_) h
    obtain ⟨r, frs, hR, hk⟩ := hv
    obtain ⟨rfl, hk, hsh, _⟩ := valsK_inv hk
    exact ⟨r, [], hR, rfl, by simp, by rw [hsh]; exact hk⟩
  · have := aVal_sound ops hs.env hs.boxrep hs.boxlen h
    obtain ⟨x, v, hk, hx, hg⟩ := this
    exact leads_val (hg w (Below.refl _ _)) hs hx ⟨rfl, rfl, hk⟩

theorem aOps_sound {ops : Array Oper} {Q : Exit → Act → World → Prop} {k : Env → List ABox → Fr → Prop} (hgd : guardsOk ops.toList = true) (hdst : dstsOk n ops.toList = true)
    (hk : ∀ g' e' bx' f' a' w', Sim n w0 F0 g' ⟨e', bx', f'⟩ a' w' → k e' bx' f' → Q .normal a' w') :
    ∀ (l : List Oper), (∀ o ∈ l, o ∈ ops.toList) → ∀ (g : G) (e : Env) (bx : List ABox) (f : Fr) (a : Act) (w : World), Sim n w0 F0 g ⟨e, bx, f⟩ a w →
      aOps (ARet P) k (l.map fun o => ⟨o.dst, o.guard.map fun g => (dstAt ops.toList g.1, g.2), cOp P ops.toList o⟩) e bx f → wpList P ops Q l a w
  | [], _, g, e, bx, f, a, w, hs, h => hk _ _ _ _ _ _ hs h
  | o :: l, hl, g, e, bx, f, a, w, hs, h => by
    have ih := aOps_sound hgd hdst hk l (fun o ho => hl o (by simp [ho]))
    have hd : ∀ i, o.dst = some i → i < n := fun i hi => by
      have := List.all_eq_true.1 hdst o (hl o (by simp))
      rw [hi] at this; simpa using this
    cases hgu : o.guard with
    | none =>
      simp only [List.map_cons, aOps, hgu, Option.map_none] at h
      unfold wpList
      have hw : Region.wanted o (yielded ops a.tmps) = true := by simp [Region.wanted, hgu]
      rw [if_pos hw]
      exact .inl (aOp_sound ops.toList hs h _ _ fun g' bx' f' x v w' S hx hk' => ih g' _ bx' f' _ w' (S.put hd hx) hk')
    | some jw =>
      obtain ⟨j, want⟩ := jw
      simp only [List.map_cons, aOps, hgu, Option.map_some] at h
      have hjd : ((ops[j]?).bind (·.dst)).isSome = true := by
        have := List.all_eq_true.1 hgd o (hl o (by simp))
        rw [hgu] at this
        simpa using this
      obtain ⟨gd, hq, hw⟩ := guard_sound hs.env hgu hjd (fun d hd' => by
        rw [hs.size]
        obtain ⟨oj, hoj, hdj⟩ := Option.bind_eq_some_iff.1 hd'
        have := List.all_eq_true.1 hdst oj (by simpa using Array.mem_of_getElem? hoj)
        rw [hdj] at this; simpa using this) h
      unfold wpList
      rw [hw]
      cases gd with
      | true =>
        rw [if_pos rfl]
        refine .inl (aQuiet_leads ops.toList hs hq _ _ fun g' bx' f' x v w' S hx hk' => ?_)
        obtain ⟨rfl, rfl, hk'⟩ := hk'
        exact ih g' _ bx' f' _ w' (S.put hd (.cond true x v (fun _ => hx) (fun h => by cases h))) hk'
      | false =>
        rw [if_neg (by simp)]
        obtain ⟨x, hx⟩ := aQuiet_ex hq
        exact ih g _ bx f _ w (hs.put hd (.cond false x undef (fun h => by cases h) (fun _ => rfl))) hx

/-- one operation of a region that draws its order -/
theorem aQuiet_quiet (ops : List Oper) (hs : Sim n w0 F0 g ⟨e, bx, f⟩ a w) {k : AV → Prop} (h : aQuiet (ARet P) (cOp P ops o) true e bx k) :
    ∃ x v, k x ∧ RepT w0.heap.size w g.F g.tok f g.box x v ∧ ∀ w', Below w.heap.size w w' → o.quietAt P a (Below w.heap.size w) w' v := by
  unfold aQuiet at h
  simp only [erases_eq] at h
  split at h
  · rename_i fid args hop
    obtain ⟨c, fn, h1, h2, h3, h4, rfl⟩ := cOp_call hop
    obtain ⟨vs, hv, hvs⟩ := evs_sound hs.env h
    obtain ⟨r, frs, hR, hk⟩ := hv
    obtain ⟨rfl, hk, hsh, hr⟩ := valsK_inv hk
    have hone : ∃ v0, Rep w0.heap.size w g.F g.tok f r v0 ∧ ∀ {B : Nat} {w' : World} {F' : Nat → Nat} {tok' : List (Option Nat)} {fr' : Fr} {v : Value}, Rep B w' F' tok' fr' r v → v = v0 := by
      rcases hr with hr | ⟨vs, rfl, hvs⟩
      · exact ⟨scalV r, scal_rep hr, fun h => scal_uniq hr h⟩
      · have hall : ∀ (i : Nat) c, vs[i]? = some c → isScal c = true := fun i c hc => List.all_eq_true.1 hvs c (List.mem_of_getElem? hc)
        refine ⟨.tuple (vs.map scalV).toArray, .tup _ _ (by simp) (fun i c hc => ?_), fun h => ?_⟩
        · have hi := getElem?_lt hc
          have e1 : (vs.map scalV).toArray.getD i undef = scalV c := by
            have : vs[i] = c := (List.getElem?_eq_some_iff.1 hc).2
            simp [Array.getD, hi, this]
          rw [e1]; exact scal_rep (hall i c hc)
        · cases h with
          | tup _ us hl hr =>
            congr 1
            apply Array.ext
            · simp [hl]
            · intro i hi1 hi2
              have hi : i < vs.length := by omega
              have := scal_uniq (hall i _ (List.getElem?_eq_getElem hi)) (hr i _ (List.getElem?_eq_getElem hi))
              simpa [Array.getD, hi1] using this
    obtain ⟨v0, hv0, huniq⟩ := hone
    refine ⟨r, v0, hk, .rep _ _ hv0, fun w' hw => ?_⟩
    unfold Oper.quietAt
    rw [run_call h1 h2 h3 h4 w']
    refine ⟨rfl, (hR rfl w' g.F (c.args.map a.eval) (fun b hb => hs.out b (Nat.le_trans hw.size hb)) ?_).mono ?_⟩
    · have L := later_below hs hw
      have : Both (RepT w0.heap.size w' g.F g.tok f g.box) vs (c.args.toList.map a.eval) := ⟨hvs.1, fun i x v hx hv => (hvs.2 i x v hx hv).later L (fun _ _ h => h)⟩
      simpa using both_erase w'.heap.size this
    · rintro en w'' ⟨v, F', tok, rfl, hb, _, _, _, _, _, hrep⟩
      exact ⟨by rw [huniq hrep], hw.trans (hb.mono hw.size)⟩
  · obtain ⟨x, v, hk, hx, hg⟩ := aVal_sound ops hs.env hs.boxrep hs.boxlen h
    refine ⟨x, v, hk, hx, fun w' hw => ?_⟩
    unfold Oper.quietAt
    rw [hg w' hw]
    exact ⟨rfl, rfl⟩

theorem aDraw_sound {ops : Array Oper} {Q : Act → Prop} {k : Env → Prop} (hgd : guardsOk ops.toList = true) (hdst : dstsOk n ops.toList = true) {bx : List ABox} {f : Fr}
    (hk : ∀ e' a', Sim n w0 F0 g ⟨e', bx, f⟩ a' w → k e' → Q a') :
    ∀ (l : List Oper), (∀ o ∈ l, o ∈ ops.toList) → ∀ (e : Env) (a : Act), Sim n w0 F0 g ⟨e, bx, f⟩ a w →
      aDraw (ARet P) k bx (l.map fun o => ⟨o.dst, o.guard.map fun g => (dstAt ops.toList g.1, g.2), cOp P ops.toList o⟩) e → wpQuiet P ops (Below w.heap.size w) Q l a
  | [], _, e, a, hs, h => hk _ _ hs h
  | o :: l, hl, e, a, hs, h => by
    have ih := aDraw_sound hgd hdst hk l (fun o ho => hl o (by simp [ho]))
    have hd : ∀ i, o.dst = some i → i < n := fun i hi => by
      have := List.all_eq_true.1 hdst o (hl o (by simp))
      rw [hi] at this; simpa using this
    have one : ∀ {x : AV} {v : Value}, (∀ w', Below w.heap.size w w' → o.quietAt P a (Below w.heap.size w) w' v) → RepT w0.heap.size w g.F g.tok f g.box x v →
        aDraw (ARet P) k bx (l.map fun o => ⟨o.dst, o.guard.map fun g => (dstAt ops.toList g.1, g.2), cOp P ops.toList o⟩) (put e o.dst x) →
        o.quiet P a (Below w.heap.size w) (wpQuiet P ops (Below w.heap.size w) Q l) := fun {x v} hq hx hk' => ⟨v, hq, ih _ _ (hs.put hd hx) hk'⟩
    cases hgu : o.guard with
    | none =>
      unfold wpQuiet
      have hw : Region.wanted o (yielded ops a.tmps) = true := by simp [Region.wanted, hgu]
      rw [if_pos hw]
      simp only [List.map_cons, aDraw, hgu, Option.map_none] at h
      split at h
      · rename_i x hop
        have hmv : o.op = .move x ∨ o.op = .assign x := by
          unfold cOp at hop
          cases ho : o.op <;> simp only [ho] at hop
          case move y => cases hop; exact .inl rfl
          case assign y => cases hop; exact .inr rfl
          all_goals first | cases hop | ((repeat' split at hop) <;> cases hop)
        exact one (v := a.eval x) (fun w' _ => by
          unfold Oper.quietAt
          have : (execOp a.eval o).run P w' = .ok (.value (a.eval x)) w' := by rcases hmv with h | h <;> simp [execOp, h]
          rw [this]; exact ⟨rfl, rfl⟩) (ev_sound hs.env x) h
      · obtain ⟨x, v, hk', hx, hq⟩ := aQuiet_quiet ops.toList hs h
        exact one hq hx hk'
    | some jw =>
      obtain ⟨j, want⟩ := jw
      simp only [List.map_cons, aDraw, hgu, Option.map_some] at h
      have hjd : ((ops[j]?).bind (·.dst)).isSome = true := by
        have := List.all_eq_true.1 hgd o (hl o (by simp))
        rw [hgu] at this
        simpa using this
      obtain ⟨gd, hq, hw⟩ := guard_sound hs.env hgu hjd (fun d hd' => by
        rw [hs.size]
        obtain ⟨oj, hoj, hdj⟩ := Option.bind_eq_some_iff.1 hd'
        have := List.all_eq_true.1 hdst oj (by simpa using Array.mem_of_getElem? hoj)
        rw [hdj] at this; simpa using this) h
      unfold wpQuiet
      rw [hw]
      cases gd with
      | true =>
        rw [if_pos rfl]
        obtain ⟨x, v, hk', hx, hq'⟩ := aQuiet_quiet ops.toList hs hq
        exact ⟨v, hq', ih _ _ (hs.put hd (.cond true x v (fun _ => hx) (fun h => by cases h))) hk'⟩
      | false =>
        rw [if_neg (by simp)]
        obtain ⟨x, hx⟩ := aQuiet_ex hq
        exact ih _ _ (hs.put hd (.cond false x undef (fun h => by cases h) (fun _ => rfl))) hx
end
end Abs
end Go.Proofs.Ytnpjjbolonbndaa
