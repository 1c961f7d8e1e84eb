/-
  Regions: in the order of the text, and in any order.
-/
import Derived.Test.YtamcaplpgmloiaaSound12
import Derived.OrdersHeld
namespace Go.Proofs.Ytamcaplpgmloiaa
namespace Abs
open Go.RowKit

section
variable {P : Program} {n : Nat} {w0 : World} {F0 : Nat → Nat} {box0 : List BId} {g : G} {e : Env} {bx : List ABox} {f : Fr} {a : Act} {w : World} {o : Oper}

theorem guard_sound {B : Nat} {F : Nat → Nat} {tok : List (Option Nat)} {fr : Fr} {box : List BId} {ops : Array Oper} {j : Nat} {want : Bool} {K : Bool → Prop} (he : EnvOk B w F tok fr box e a)
    (hg : o.guard = some (j, want)) (hd : ((ops[j]?).bind (·.dst)).isSome = true) (hn : ∀ d, (ops[j]?).bind (·.dst) = some d → d < a.tmps.size)
    (h : guardOf want (look e (dstAt ops.toList j)) K) : ∃ gd, K gd ∧ Region.wanted o (yielded ops a.tmps) = gd := by
  obtain ⟨d, hd⟩ := Option.isSome_iff_exists.1 hd
  have hdn := hn d hd
  have hda : dstAt ops.toList j = d := by unfold dstAt; rw [Array.getElem?_toList, hd]; rfl
  rw [hda] at h
  have hx := he d
  have hget : a.tmps[d]? = some (a.tmps.getD d undef) := by simp [Array.getD, hdn]
  have hy : ∀ v, a.tmps.getD d undef = v → yielded ops a.tmps j = match v with | .bool b => some b | _ => none := fun v hv => by
    unfold yielded
    rw [hd]
    simp only [Option.bind_some, hget, hv]
    cases v <;> rfl
  unfold guardOf at h
  split at h
  · rename_i b hl
    rw [hl] at hx
    cases want with
    | true => exact ⟨_, h, by simp only [Region.wanted, hg, hy _ hx.val_inv]; cases b <;> rfl⟩
    | false => exact ⟨_, h, by simp only [Region.wanted, hg, hy _ hx.val_inv]; cases b <;> rfl⟩
  · rename_i gg b hl
    rw [hl] at hx
    cases gg with
    | true =>
      cases want with
      | true => exact ⟨_, h, by simp only [Region.wanted, hg, hy _ (hx.cond_inv.1 rfl).val_inv]; cases b <;> rfl⟩
      | false => exact ⟨_, h, by simp only [Region.wanted, hg, hy _ (hx.cond_inv.1 rfl).val_inv]; cases b <;> rfl⟩
    | false =>
      cases want with
      | true => exact ⟨_, h, by simp only [Region.wanted, hg, hy _ (hx.cond_inv.2 rfl), undef]; rfl⟩
      | false => exact ⟨_, h, by simp only [Region.wanted, hg, hy _ (hx.cond_inv.2 rfl), undef]; rfl⟩
  · exact h.no

theorem cOp_call {ops : List Oper} {fid : Nat} {args : List Operand} (h : cOp P ops o = .call fid args) :
    ∃ c fn, o.op = .call c ∧ c.callee = .value (.func fid) ∧ P.funcs[fid]? = some fn ∧ (fn.name == "runtime.NumGoroutine" || fn.body.isNone) = false ∧ args = c.args.toList := by
  unfold cOp at h
  cases hop : o.op <;> simp only [hop] at h
  case call c =>
    split at h
    · split at h
      · repeat' split at h
        all_goals cases h
      · split at h <;> cases h
      · cases h
    · rename_i v hc
      split at h
      · rename_i fid'
        split at h
        · rename_i fn hf
          split at h
          · cases h
          · rename_i hn
            cases h
            exact ⟨c, fn, rfl, hc, hf, Bool.eq_false_iff.2 hn, rfl⟩
        · cases h
      · cases h
      · cases h
    · cases h
  all_goals first | cases h | (repeat' split at h) <;> cases h

theorem evs_mono : ∀ {l : List Operand} {k1 k2 : List AV → Prop}, (∀ vs, k1 vs → k2 vs) → evs true e l k1 → evs true e l k2
  | [], _, _, hk, h => hk _ h
  | x :: l, k1, k2, hk, h => by
    unfold evs evG unG at h ⊢
    generalize ev e x = y at h ⊢
    cases y with
    | cond gg y => exact ⟨h.1, evs_mono (fun vs h => hk _ h) h.2⟩
    | _ => exact evs_mono (fun vs h => hk _ h) h

theorem aQuiet_leads (ops : List Oper) (hs : Sim n w0 F0 box0 g ⟨e, bx, f⟩ a w) {k : AV → Prop} (h : aQuiet (ACon P) (cOp P ops o) true e bx k) : Leads P n w0 F0 box0 e a o w (fun x bx' f' => bx' = bx ∧ f' = f ∧ k x) := by
  unfold aQuiet at h
  split at h
  · rename_i fid args hop
    obtain ⟨c, fn, h1, h2, h3, h4, rfl⟩ := cOp_call hop
    obtain ⟨vs, hv, hvs⟩ := evs_sound hs.env h
    refine leads_calls (lend := true) hs hvs (fun _ => by rw [run_call h1 h2 h3 h4 w]; congr 2; apply Array.ext'; simp) ?_
    obtain ⟨ys, r, hR, hr, hv, hk⟩ := hv
    exact .scal ys r (hR rfl) hr (hv rfl) ⟨rfl, rfl, hk⟩
  · have := aVal_sound ops hs.env hs.boxrep h
    obtain ⟨x, v, hk, hx, hg⟩ := this
    exact leads_val (hg w (Below.refl _ _)) hs hx ⟨rfl, rfl, hk⟩

theorem aOps_sound {ops : Array Oper} {Q : Exit → Act → World → Prop} {k : Env → List ABox → Fr → Prop} (hgd : guardsOk ops.toList = true) (hdst : dstsOk n ops.toList = true)
    (hk : ∀ g' e' bx' f' a' w', Sim n w0 F0 box0 g' ⟨e', bx', f'⟩ a' w' → k e' bx' f' → Q .normal a' w') :
    ∀ (l : List Oper), (∀ o ∈ l, o ∈ ops.toList) → ∀ (g : G) (e : Env) (bx : List ABox) (f : Fr) (a : Act) (w : World), Sim n w0 F0 box0 g ⟨e, bx, f⟩ a w →
      aOps (ACon P) k (l.map fun o => ⟨o.dst, o.guard.map fun g => (dstAt ops.toList g.1, g.2), cOp P ops.toList o⟩) e bx f → wpList P ops Q l a w
  | [], _, g, e, bx, f, a, w, hs, h => hk _ _ _ _ _ _ hs h
  | o :: l, hl, g, e, bx, f, a, w, hs, h => by
    have ih := aOps_sound hgd hdst hk l (fun o ho => hl o (by simp [ho]))
    have hd : ∀ i, o.dst = some i → i < n := fun i hi => by
      have := List.all_eq_true.1 hdst o (hl o (by simp))
      rw [hi] at this; simpa using this
    cases hgu : o.guard with
    | none =>
      simp only [List.map_cons, aOps, hgu, Option.map_none] at h
      unfold wpList
      have hw : Region.wanted o (yielded ops a.tmps) = true := by simp [Region.wanted, hgu]
      rw [if_pos hw]
      exact .inl (aOp_sound ops.toList hs h _ _ fun g' bx' f' x v w' S hx hk' => ih g' _ bx' f' _ w' (S.put hd hx) hk')
    | some jw =>
      obtain ⟨j, want⟩ := jw
      simp only [List.map_cons, aOps, hgu, Option.map_some] at h
      have hjd : ((ops[j]?).bind (·.dst)).isSome = true := by
        have := List.all_eq_true.1 hgd o (hl o (by simp))
        rw [hgu] at this
        simpa using this
      obtain ⟨gd, hq, hw⟩ := guard_sound hs.env hgu hjd (fun d hd' => by
        rw [hs.size]
        obtain ⟨oj, hoj, hdj⟩ := Option.bind_eq_some_iff.1 hd'
        have := List.all_eq_true.1 hdst oj (by simpa using Array.mem_of_getElem? hoj)
        rw [hdj] at this; simpa using this) h
      unfold wpList
      rw [hw]
      cases gd with
      | true =>
        rw [if_pos rfl]
        refine .inl (aQuiet_leads ops.toList hs hq _ _ fun g' bx' f' x v w' S hx hk' => ?_)
        obtain ⟨rfl, rfl, hk'⟩ := hk'
        exact ih g' _ bx' f' _ w' (S.put hd (.cond true x v (fun _ => hx) (fun h => by cases h))) hk'
      | false =>
        rw [if_neg (by simp)]
        obtain ⟨x, hx⟩ := aQuiet_ex hq
        exact ih g _ bx f _ w (hs.put hd (.cond false x undef (fun h => by cases h) (fun _ => rfl))) hx

/-- one operation of a region that draws its order -/
theorem aQuiet_quiet (ops : List Oper) (hs : Sim n w0 F0 box0 g ⟨e, bx, f⟩ a w) {k : AV → Prop} (h : aQuiet (ACon P) (cOp P ops o) true e bx k) :
    ∃ x v, k x ∧ RepT w0.heap.size w g.F g.tok f g.box x v ∧ ∀ w', Below w.heap.size w w' → o.quietAt P a (Below w.heap.size w) w' v := by
  unfold aQuiet at h
  split at h
  · rename_i fid args hop
    obtain ⟨c, fn, h1, h2, h3, h4, rfl⟩ := cOp_call hop
    obtain ⟨vs, hv, hvs⟩ := evs_sound hs.env h
    obtain ⟨ys, r, hR, hr, hv, hk⟩ := hv
    obtain ⟨v0, hv0⟩ := scalR_rep hr
    refine ⟨r, v0, hk, .rep _ _ hv0.1, fun w' hw => ?_⟩
    unfold Oper.quietAt
    rw [run_call h1 h2 h3 h4 w']
    have S := hs.world hw
    obtain ⟨_, hR⟩ := hR rfl
    refine ⟨rfl, (hR w' (bigF w' g.F) (c.args.map a.eval) (fun b hb => bigF_out hb (S.out b hb)) ?_).mono ?_⟩
    · have L := later_below hs hw
      have hvs' : Both (RepT w0.heap.size w' g.F g.tok f g.box) vs (c.args.toList.map a.eval) := ⟨hvs.1, fun i x v hx hv => (hvs.2 i x v hx hv).later L (fun _ _ h => h)⟩
      have := both_sees hvs' (hv rfl) (R' := Rep w'.heap.size w' (bigF w' g.F) [] [] []) (fun x y v hS hx => hS (bigF w' g.F) S.boxrep (bigF_le w' g.F) bigF_cells hx w'.heap.size [])
      simpa using this
    · rintro en w'' ⟨v, F', tok, box, rfl, hb, _, _, _, _, _, hrep⟩
      exact ⟨by rw [hv0.2 v hrep], hw.trans (hb.mono hw.size)⟩
  · obtain ⟨x, v, hk, hx, hg⟩ := aVal_sound ops hs.env hs.boxrep h
    refine ⟨x, v, hk, hx, fun w' hw => ?_⟩
    unfold Oper.quietAt
    rw [hg w' hw]
    exact ⟨rfl, rfl⟩

theorem aDraw_sound {ops : Array Oper} {Q : Act → Prop} {k : Env → Prop} (hgd : guardsOk ops.toList = true) (hdst : dstsOk n ops.toList = true) {bx : List ABox} {f : Fr}
    (hk : ∀ e' a', Sim n w0 F0 box0 g ⟨e', bx, f⟩ a' w → k e' → Q a') :
    ∀ (l : List Oper), (∀ o ∈ l, o ∈ ops.toList) → ∀ (e : Env) (a : Act), Sim n w0 F0 box0 g ⟨e, bx, f⟩ a w →
      aDraw (ACon P) k bx (l.map fun o => ⟨o.dst, o.guard.map fun g => (dstAt ops.toList g.1, g.2), cOp P ops.toList o⟩) e → wpQuiet P ops (Below w.heap.size w) Q l a
  | [], _, e, a, hs, h => hk _ _ hs h
  | o :: l, hl, e, a, hs, h => by
    have ih := aDraw_sound hgd hdst hk l (fun o ho => hl o (by simp [ho]))
    have hd : ∀ i, o.dst = some i → i < n := fun i hi => by
      have := List.all_eq_true.1 hdst o (hl o (by simp))
      rw [hi] at this; simpa using this
    have one : ∀ {x : AV} {v : Value}, (∀ w', Below w.heap.size w w' → o.quietAt P a (Below w.heap.size w) w' v) → RepT w0.heap.size w g.F g.tok f g.box x v →
        aDraw (ACon P) k bx (l.map fun o => ⟨o.dst, o.guard.map fun g => (dstAt ops.toList g.1, g.2), cOp P ops.toList o⟩) (put e o.dst x) →
        o.quiet P a (Below w.heap.size w) (wpQuiet P ops (Below w.heap.size w) Q l) := fun {x v} hq hx hk' => ⟨v, hq, ih _ _ (hs.put hd hx) hk'⟩
    cases hgu : o.guard with
    | none =>
      unfold wpQuiet
      have hw : Region.wanted o (yielded ops a.tmps) = true := by simp [Region.wanted, hgu]
      rw [if_pos hw]
      simp only [List.map_cons, aDraw, hgu, Option.map_none] at h
      split at h
      · rename_i x hop
        have hmv : o.op = .move x ∨ o.op = .assign x := by
          unfold cOp at hop
          cases ho : o.op <;> simp only [ho] at hop
          case move y => cases hop; exact .inl rfl
          case assign y => cases hop; exact .inr rfl
          all_goals first | cases hop | ((repeat' split at hop) <;> cases hop)
        exact one (v := a.eval x) (fun w' _ => by
          unfold Oper.quietAt
          have : (execOp a.eval o).run P w' = .ok (.value (a.eval x)) w' := by rcases hmv with h | h <;> simp [execOp, h]
          rw [this]; exact ⟨rfl, rfl⟩) (ev_sound hs.env x) h
      · obtain ⟨x, v, hk', hx, hq⟩ := aQuiet_quiet ops.toList hs h
        exact one hq hx hk'
    | some jw =>
      obtain ⟨j, want⟩ := jw
      simp only [List.map_cons, aDraw, hgu, Option.map_some] at h
      have hjd : ((ops[j]?).bind (·.dst)).isSome = true := by
        have := List.all_eq_true.1 hgd o (hl o (by simp))
        rw [hgu] at this
        simpa using this
      obtain ⟨gd, hq, hw⟩ := guard_sound hs.env hgu hjd (fun d hd' => by
        rw [hs.size]
        obtain ⟨oj, hoj, hdj⟩ := Option.bind_eq_some_iff.1 hd'
        have := List.all_eq_true.1 hdst oj (by simpa using Array.mem_of_getElem? hoj)
        rw [hdj] at this; simpa using this) h
      unfold wpQuiet
      rw [hw]
      cases gd with
      | true =>
        rw [if_pos rfl]
        obtain ⟨x, v, hk', hx, hq'⟩ := aQuiet_quiet ops.toList hs hq
        exact ⟨v, hq', ih _ _ (hs.put hd (.cond true x v (fun _ => hx) (fun h => by cases h))) hk'⟩
      | false =>
        rw [if_neg (by simp)]
        obtain ⟨x, hx⟩ := aQuiet_ex hq
        exact ih _ _ (hs.put hd (.cond false x undef (fun h => by cases h) (fun _ => rfl))) hx
/-! a region that draws its order: reads come first, calls wait for one another -/
theorem aQuiet_leadsB (ops : List Oper) (hs : Sim n w0 F0 box0 g ⟨e, bx, f⟩ a w) {k : AV → Prop} (h : aQuiet (ACon P) (cOp P ops o) true e bx k) :
    ∀ (next : Act → World → Prop) (Q : Exit → Act → World → Prop),
      (∀ g' x v w', Sim n w0 F0 box0 g' ⟨e, bx, f⟩ a w' → RepT w0.heap.size w' g'.F g'.tok f g'.box x v → k x → Below w.heap.size w w' → (quietOp o = true → w' = w) → next (a.put o.dst v) w') → o.wp P a w next Q := by
  intro next Q hnext
  unfold aQuiet at h
  split at h
  · rename_i fid args hop
    obtain ⟨c, fn, h1, h2, h3, h4, rfl⟩ := cOp_call hop
    obtain ⟨vs, hv, hvs⟩ := evs_sound hs.env h
    have hq : ¬ quietOp o = true := by unfold quietOp; simp [h1, h2]
    obtain ⟨ys, r, hR, hr, hv, hk⟩ := hv
    refine leads_callsB (lend := false) (k := fun x bx' f' => bx' = bx ∧ f' = f ∧ k x) hs hvs (fun _ => by rw [run_call h1 h2 h3 h4 w]; congr 2; apply Array.ext'; simp) (.scal ys r (hR rfl) hr (hv rfl) ⟨rfl, rfl, hk⟩) next Q ?_
    rintro g' bx' f' x v w' S hx ⟨rfl, rfl, hk⟩ hb
    exact hnext g' x v w' S hx hk (hb rfl) (fun h => absurd h hq)
  · obtain ⟨x, v, hk, hx, hg⟩ := aVal_sound ops hs.env hs.boxrep h
    unfold Oper.wp
    rw [hg w (Below.refl _ _)]
    exact hnext g x v w hs hx hk (Below.refl _ _) (fun _ => rfl)

theorem mv_inv {ops : List Oper} {x : Operand} (hop : cOp P ops o = .mv x) : ∀ w', (execOp a.eval o).run P w' = .ok (.value (a.eval x)) w' := by
  have hmv : o.op = .move x ∨ o.op = .assign x := by
    unfold cOp at hop
    cases ho : o.op <;> simp only [ho] at hop
    case move y => cases hop; exact .inl rfl
    case assign y => cases hop; exact .inr rfl
    all_goals first | cases hop | ((repeat' split at hop) <;> cases hop)
  intro w'
  rcases hmv with h | h <;> simp [execOp, h]

theorem held_one {ops : Array Oper} {i : Nat} (ho : ops[i]? = some o) (hgd : guardsOk ops.toList = true) (hdst : dstsOk n ops.toList = true) (hs : Sim n w0 F0 box0 g ⟨e, bx, f⟩ a w)
    {k : Env → List ABox → Fr → Prop} {rest : List AO} (h : aHeld (ACon P) k (aoAt P ops i :: rest) e bx f) {Q' : Exit → Act → World → Prop} {K : Act → World → Prop}
    (hK : ∀ g' e' bx' f' a' w', Sim n w0 F0 box0 g' ⟨e', bx', f'⟩ a' w' → Below w.heap.size w w' → (quietOp o = true → w' = w) → aHeld (ACon P) k rest e' bx' f' → K a' w') : wpOp P ops Q' i K a w := by
  have hmem : o ∈ ops.toList := by simpa using Array.mem_of_getElem? ho
  have hd : ∀ i, o.dst = some i → i < n := fun i hi => by
    have := List.all_eq_true.1 hdst o hmem
    rw [hi] at this; simpa using this
  have hao : aoAt P ops i = aoOf P ops.toList o := by unfold aoAt; rw [ho]
  rw [hao] at h
  unfold wpOp
  simp only [ho]
  cases hgu : o.guard with
  | none =>
    have hw : Region.wanted o (yielded ops a.tmps) = true := by simp [Region.wanted, hgu]
    rw [if_pos hw]
    left
    simp only [aHeld, aoOf, hgu, Option.map_none] at h
    split at h
    · rename_i fid args hop
      obtain ⟨c, fn, h1, h2, h3, h4, rfl⟩ := cOp_call hop
      obtain ⟨vs, hv, hvs⟩ := evs_sound hs.env h
      have hq : ¬ quietOp o = true := by unfold quietOp; simp [h1, h2]
      refine leads_callsB hs hvs (fun _ => by rw [run_call h1 h2 h3 h4 w]; congr 2; apply Array.ext'; simp) hv _ _ ?_
      intro g' bx' f' x v w' S hx hk hb
      exact hK g' _ bx' f' _ w' (S.put hd hx) (hb rfl) (fun h => absurd h hq) hk
    · rename_i x hop
      unfold Oper.wp
      rw [mv_inv hop w]
      exact hK g _ bx f _ w (hs.put hd (ev_sound hs.env x)) (Below.refl _ _) (fun _ => rfl) h
    · obtain ⟨x, v, hk, hx, hg⟩ := aVal_sound ops.toList hs.env hs.boxrep h
      unfold Oper.wp
      rw [hg w (Below.refl _ _)]
      exact hK g _ bx f _ w (hs.put hd hx) (Below.refl _ _) (fun _ => rfl) hk
  | some jw =>
    obtain ⟨j, want⟩ := jw
    simp only [aHeld, aoOf, hgu, Option.map_some] at h
    have hjd : ((ops[j]?).bind (·.dst)).isSome = true := by
      have := List.all_eq_true.1 hgd o hmem
      rw [hgu] at this
      simpa using this
    obtain ⟨gd, hq, hw⟩ := guard_sound hs.env hgu hjd (fun d hd' => by
      rw [hs.size]
      obtain ⟨oj, hoj, hdj⟩ := Option.bind_eq_some_iff.1 hd'
      have := List.all_eq_true.1 hdst oj (by simpa using Array.mem_of_getElem? hoj)
      rw [hdj] at this; simpa using this) h
    rw [hw]
    cases gd with
    | true =>
      rw [if_pos rfl]
      left
      refine aQuiet_leadsB ops.toList hs hq _ _ ?_
      intro g' x v w' S hx hk hb hqq
      exact hK g' _ bx f _ w' (S.put hd (.cond true x v (fun _ => hx) (fun h => by cases h))) hb hqq hk
    | false =>
      rw [if_neg (by simp)]
      obtain ⟨x, hx⟩ := aQuiet_ex hq
      exact hK g _ bx f _ w (hs.put hd (.cond false x undef (fun h => by cases h) (fun _ => rfl))) (Below.refl _ _) (fun _ => rfl) hx

theorem held_quiet {ops : Array Oper} {i : Nat} (ho : ops[i]? = some o) (hqo : quietOp o = true) (hgd : guardsOk ops.toList = true) (hdst : dstsOk n ops.toList = true) (hs : Sim n w0 F0 box0 g ⟨e, bx, f⟩ a w)
    {k : Env → List ABox → Fr → Prop} {rest : List AO} (h : aHeld (ACon P) k (aoAt P ops i :: rest) e bx f) :
    ∃ v e', YieldsIf P ops (Below w.heap.size w) o v a ∧ Sim n w0 F0 box0 g ⟨e', bx, f⟩ (a.put o.dst v) w ∧ aHeld (ACon P) k rest e' bx f := by
  have hmem : o ∈ ops.toList := by simpa using Array.mem_of_getElem? ho
  have hd : ∀ i, o.dst = some i → i < n := fun i hi => by
    have := List.all_eq_true.1 hdst o hmem
    rw [hi] at this; simpa using this
  have hao : aoAt P ops i = aoOf P ops.toList o := by unfold aoAt; rw [ho]
  rw [hao] at h
  have nocall : ∀ {fid args}, cOp P ops.toList o = .call fid args → False := fun {fid args} hop => by
    obtain ⟨c, fn, h1, h2, h3, h4, rfl⟩ := cOp_call hop
    revert hqo; unfold quietOp; simp [h1, h2]
  cases hgu : o.guard with
  | none =>
    have hw : Region.wanted o (yielded ops a.tmps) = true := by simp [Region.wanted, hgu]
    simp only [aHeld, aoOf, hgu, Option.map_none] at h
    split at h
    · rename_i fid args hop; exact (nocall hop).elim
    · rename_i x hop
      exact ⟨_, _, .inl ⟨hw, fun w' _ => mv_inv hop w'⟩, hs.put hd (ev_sound hs.env x), h⟩
    · obtain ⟨x, v, hk, hx, hg⟩ := aVal_sound ops.toList hs.env hs.boxrep h
      exact ⟨_, _, .inl ⟨hw, fun w' hw' => hg w' hw'⟩, hs.put hd hx, hk⟩
  | some jw =>
    obtain ⟨j, want⟩ := jw
    simp only [aHeld, aoOf, hgu, Option.map_some] at h
    have hjd : ((ops[j]?).bind (·.dst)).isSome = true := by
      have := List.all_eq_true.1 hgd o hmem
      rw [hgu] at this
      simpa using this
    obtain ⟨gd, hq, hw⟩ := guard_sound hs.env hgu hjd (fun d hd' => by
      rw [hs.size]
      obtain ⟨oj, hoj, hdj⟩ := Option.bind_eq_some_iff.1 hd'
      have := List.all_eq_true.1 hdst oj (by simpa using Array.mem_of_getElem? hoj)
      rw [hdj] at this; simpa using this) h
    cases gd with
    | true =>
      unfold aQuiet at hq
      split at hq
      · rename_i fid args hop; exact (nocall hop).elim
      · obtain ⟨x, v, hk, hx, hg⟩ := aVal_sound ops.toList hs.env hs.boxrep hq
        exact ⟨_, _, .inl ⟨hw, fun w' hw' => hg w' hw'⟩, hs.put hd (.cond true x v (fun _ => hx) (fun h => by cases h)), hk⟩
    | false =>
      obtain ⟨x, hx⟩ := aQuiet_ex hq
      exact ⟨undef, _, .inr ⟨hw, rfl⟩, hs.put hd (.cond false x undef (fun h => by cases h) (fun _ => rfl)), hx⟩

theorem aHeld_sound {ops : Array Oper} (hgd : guardsOk ops.toList = true) (hdst : dstsOk n ops.toList = true) (hsel : Region.noSelect ops = true) {ws : World} {k : Env → List ABox → Fr → Prop} {Q' : Exit → Act → World → Prop}
    (hQ : ∀ c a w, ¬ Q' (.panic c) a w) (hk : ∀ g' e' bx' f' a' w', Sim n w0 F0 box0 g' ⟨e', bx', f'⟩ a' w' → k e' bx' f' → Q' .normal a' w') :
    ∀ (m : Nat) (fresh : Bool) (listed : Array Bool) (ord : List Nat), heldGo ops m fresh listed = some ord → ∀ (g : G) (e : Env) (bx : List ABox) (f : Fr) (a : Act) (w : World), Sim n w0 F0 box0 g ⟨e, bx, f⟩ a w →
      Below ws.heap.size ws w → (fresh = true → w = ws) → aHeld (ACon P) k (ord.map (aoAt P ops)) e bx f → wpAnyH P .any ops Q' (Below ws.heap.size ws) m listed a w
  | 0, fresh, listed, ord, ho, g, e, bx, f, a, w, hs, hb, hf, h => by
    unfold heldGo at ho
    split at ho
    · rename_i hr
      cases ho
      exact ⟨List.isEmpty_iff.1 hr, hk _ _ _ _ _ _ hs h⟩
    · cases ho
  | m + 1, fresh, listed, ord, ho, g, e, bx, f, a, w, hs, hb, hf, h => by
    unfold heldGo at ho
    split at ho
    · rename_i i hr
      split at ho
      · rename_i l hl
        cases ho
        obtain ⟨_, oi, hoi, _⟩ := mem_ready.1 (by rw [hr]; simp : i ∈ Region.ready .any ops listed)
        refine wpAnyH_all hr (by simp) (fun j hj => ?_)
        have : j = i := by simpa using hj
        subst this
        refine held_one hoi hgd hdst hs h ?_
        intro g' e' bx' f' a' w' S hb' hq' h'
        refine ⟨hb.trans (hb'.mono hb.size), aHeld_sound hgd hdst hsel hQ hk m _ _ l hl g' e' bx' f' a' w' S (hb.trans (hb'.mono hb.size)) (fun hfr => ?_) h'⟩
        rw [Bool.and_eq_true] at hfr
        have hqi : quietOp oi = true := by have := hfr.2; unfold quietIx at this; rw [hoi] at this; exact this
        rw [hq' hqi]; exact hf hfr.1
      · cases ho
    · split at ho
      · rename_i i hfi
        split at ho
        · rename_i l hl
          cases ho
          have hmem := List.mem_of_find?_eq_some hfi
          have hp := List.find?_some hfi
          simp only [Bool.and_eq_true] at hp
          obtain ⟨⟨hfr, hqi⟩, hfree⟩ := hp
          obtain ⟨_, oi, hoi, _⟩ := mem_ready.1 hmem
          have hqi' : quietOp oi = true := by unfold quietIx at hqi; rw [hoi] at hqi; exact hqi
          have hw := hf hfr
          subst hw
          obtain ⟨v, e', hy, S, h'⟩ := held_quiet hoi hqi' hgd hdst hs h
          exact wpAnyH_take hoi hsel hfree (by simpa using hmem) (fun c a w h => absurd h (hQ c _ w)) hy hb (aHeld_sound hgd hdst hsel hQ hk m _ _ l hl g e' bx f _ _ S hb (fun _ => rfl) h')
        · cases ho
      · cases ho
end
end Abs
end Go.Proofs.Ytamcaplpgmloiaa
