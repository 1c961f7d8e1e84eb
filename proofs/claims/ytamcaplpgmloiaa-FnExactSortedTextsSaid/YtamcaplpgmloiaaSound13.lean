/-
  Regions: in the order of the text, and in any order.
-/
import Derived.Test.YtamcaplpgmloiaaSound12
import Derived.OrdersHeld
import Derived.StillTail
namespace Go.Proofs.Ytamcaplpgmloiaa
namespace Abs
variable {mo : Bool}
open Go.RowKit

section
variable {P : Program} {n : Nat} {w0 : World} {F0 : Nat → Nat} {box0 : List BId} {g : G} {e : Env} {bx : List ABox} {f : Fr} {a : Act} {w : World} {o : Oper}

theorem guard_sound {B : Nat} {F : Nat → Nat} {tok : List (Option Nat)} {fr : Fr} {box : List BId} {ops : Array Oper} {j : Nat} {want : Bool} {K : Bool → Prop} (he : EnvOk B w F tok fr box e a)
    (hg : o.guard = some (j, want)) (hd : ((ops[j]?).bind (·.dst)).isSome = true) (hn : ∀ d, (ops[j]?).bind (·.dst) = some d → d < a.tmps.size)
    (h : guardOf want (look e (dstAt ops.toList j)) K) : ∃ gd, K gd ∧ Region.wanted o (yielded ops a.tmps) = gd := by
  obtain ⟨d, hd⟩ := Option.isSome_iff_exists.1 hd
  have hdn := hn d hd
  have hda : dstAt ops.toList j = d := by unfold dstAt; rw [Array.getElem?_toList, hd]; rfl
  rw [hda] at h
  have hx := he d
  have hget : a.tmps[d]? = some (a.tmps.getD d undef) := by simp [Array.getD, hdn]
  have hy : ∀ v, a.tmps.getD d undef = v → yielded ops a.tmps j = match v with | .bool b => some b | _ => none := fun v hv => by
    unfold yielded
    rw [hd]
    simp only [Option.bind_some, hget, hv]
    cases v <;> rfl
  unfold guardOf at h
  split at h
  · rename_i b hl
    rw [hl] at hx
    cases want with
    | true => exact ⟨_, h, by simp only [Region.wanted, hg, hy _ hx.val_inv]; cases b <;> rfl⟩
    | false => exact ⟨_, h, by simp only [Region.wanted, hg, hy _ hx.val_inv]; cases b <;> rfl⟩
  · rename_i gg b hl
    rw [hl] at hx
    cases gg with
    | true =>
      cases want with
      | true => exact ⟨_, h, by simp only [Region.wanted, hg, hy _ (hx.cond_inv.1 rfl).val_inv]; cases b <;> rfl⟩
      | false => exact ⟨_, h, by simp only [Region.wanted, hg, hy _ (hx.cond_inv.1 rfl).val_inv]; cases b <;> rfl⟩
    | false =>
      cases want with
      | true => exact ⟨_, h, by simp only [Region.wanted, hg, hy _ (hx.cond_inv.2 rfl), undef]; rfl⟩
      | false => exact ⟨_, h, by simp only [Region.wanted, hg, hy _ (hx.cond_inv.2 rfl), undef]; rfl⟩
  · exact h.no

theorem cOp_call {ops : List Oper} {fid : Nat} {args : List Operand} (h : cOp P ops o = .call fid args) :
    ∃ c fn, o.op = .call c ∧ c.callee = .value (.func fid) ∧ P.funcs[fid]? = some fn ∧ (fn.name == "runtime.NumGoroutine" || fn.body.isNone) = false ∧ args = c.args.toList := by
  unfold cOp at h
  cases hop : o.op <;> simp only [hop] at h
  case call c =>
    split at h
    · split at h
      · repeat' split at h
        all_goals cases h
      · split at h <;> cases h
      · cases h
    · rename_i v hc
      split at h
      · rename_i fid'
        split at h
        · rename_i fn hf
          split at h
          · cases h
          · rename_i hn
            cases h
            exact ⟨c, fn, rfl, hc, hf, Bool.eq_false_iff.2 hn, rfl⟩
        · cases h
      · cases h
      · cases h
    · cases h
  all_goals first | cases h | (repeat' split at h) <;> cases h

theorem evs_mono : ∀ {l : List Operand} {k1 k2 : List AV → Prop}, (∀ vs, k1 vs → k2 vs) → evs true e l k1 → evs true e l k2
  | [], _, _, hk, h => hk _ h
  | x :: l, k1, k2, hk, h => by
    unfold evs evG unG at h ⊢
    generalize ev e x = y at h ⊢
    cases y with
    | cond gg y => exact ⟨h.1, evs_mono (fun vs h => hk _ h) h.2⟩
    | _ => exact evs_mono (fun vs h => hk _ h) h

theorem aQuiet_leads (ops : List Oper) (hs : Sim mo n w0 F0 box0 g ⟨e, bx, f⟩ a w) {k : AV → Prop} (h : aQuiet (ACon mo P) (cOp P ops o) true e bx k) : Leads mo P n w0 F0 box0 e a o w (fun x bx' f' => bx' = bx ∧ f' = f ∧ k x) := by
  unfold aQuiet at h
  split at h
  · rename_i fid args hop
    obtain ⟨c, fn, h1, h2, h3, h4, rfl⟩ := cOp_call hop
    obtain ⟨vs, hv, hvs⟩ := evs_sound hs.env h
    refine leads_calls (lend := true) hs hvs (fun _ => by rw [run_call h1 h2 h3 h4 w]; congr 2; apply Array.ext'; simp) ?_
    obtain ⟨ys, r, hR, hr, hv, hk⟩ := hv
    exact .scal ys r (hR rfl) hr (hv rfl) ⟨rfl, rfl, hk⟩
  · have := aVal_sound ops hs.env hs.boxrep h
    obtain ⟨x, v, hk, hx, hg⟩ := this
    exact leads_val (hg w (Below.refl _ _)) hs hx ⟨rfl, rfl, hk⟩

theorem aOps_sound {ops : Array Oper} {Q : Exit → Act → World → Prop} {k : Env → List ABox → Fr → Prop} (hgd : guardsOk ops.toList = true) (hdst : dstsOk n ops.toList = true)
    (hk : ∀ g' e' bx' f' a' w', Sim mo n w0 F0 box0 g' ⟨e', bx', f'⟩ a' w' → k e' bx' f' → Q .normal a' w') :
    ∀ (l : List Oper), (∀ o ∈ l, o ∈ ops.toList) → ∀ (g : G) (e : Env) (bx : List ABox) (f : Fr) (a : Act) (w : World), Sim mo n w0 F0 box0 g ⟨e, bx, f⟩ a w →
      aOps (ACon mo P) k (l.map fun o => ⟨o.dst, o.guard.map fun g => (dstAt ops.toList g.1, g.2), cOp P ops.toList o⟩) e bx f → wpList P ops Q l a w
  | [], _, g, e, bx, f, a, w, hs, h => hk _ _ _ _ _ _ hs h
  | o :: l, hl, g, e, bx, f, a, w, hs, h => by
    have ih := aOps_sound hgd hdst hk l (fun o ho => hl o (by simp [ho]))
    have hd : ∀ i, o.dst = some i → i < n := fun i hi => by
      have := List.all_eq_true.1 hdst o (hl o (by simp))
      rw [hi] at this; simpa using this
    cases hgu : o.guard with
    | none =>
      simp only [List.map_cons, aOps, hgu, Option.map_none] at h
      unfold wpList
      have hw : Region.wanted o (yielded ops a.tmps) = true := by simp [Region.wanted, hgu]
      rw [if_pos hw]
      exact .inl (aOp_sound ops.toList hs h _ _ fun g' bx' f' x v w' S hx hk' => ih g' _ bx' f' _ w' (S.put hd hx) hk')
    | some jw =>
      obtain ⟨j, want⟩ := jw
      simp only [List.map_cons, aOps, hgu, Option.map_some] at h
      have hjd : ((ops[j]?).bind (·.dst)).isSome = true := by
        have := List.all_eq_true.1 hgd o (hl o (by simp))
        rw [hgu] at this
        simpa using this
      obtain ⟨gd, hq, hw⟩ := guard_sound hs.env hgu hjd (fun d hd' => by
        rw [hs.size]
        obtain ⟨oj, hoj, hdj⟩ := Option.bind_eq_some_iff.1 hd'
        have := List.all_eq_true.1 hdst oj (by simpa using Array.mem_of_getElem? hoj)
        rw [hdj] at this; simpa using this) h
      unfold wpList
      rw [hw]
      cases gd with
      | true =>
        rw [if_pos rfl]
        refine .inl (aQuiet_leads ops.toList hs hq _ _ fun g' bx' f' x v w' S hx hk' => ?_)
        obtain ⟨rfl, rfl, hk'⟩ := hk'
        exact ih g' _ bx' f' _ w' (S.put hd (.cond true x v (fun _ => hx) (fun h => by cases h))) hk'
      | false =>
        rw [if_neg (by simp)]
        obtain ⟨x, hx⟩ := aQuiet_ex hq
        exact ih g _ bx f _ w (hs.put hd (.cond false x undef (fun h => by cases h) (fun _ => rfl))) hx

/-- one operation of a region that draws its order -/
theorem aQuiet_quiet (ops : List Oper) (hs : Sim mo n w0 F0 box0 g ⟨e, bx, f⟩ a w) {k : AV → Prop} (h : aQuiet (ACon mo P) (cOp P ops o) true e bx k) :
    ∃ x v, k x ∧ RepT w0.heap.size w g.F g.tok f g.box x v ∧ ∀ w', Bel mo w.heap.size w w' → o.quietAt P a (Bel mo w.heap.size w) w' v := by
  unfold aQuiet at h
  split at h
  · rename_i fid args hop
    obtain ⟨c, fn, h1, h2, h3, h4, rfl⟩ := cOp_call hop
    obtain ⟨vs, hv, hvs⟩ := evs_sound hs.env h
    obtain ⟨ys, r, hR, hr, hv, hk⟩ := hv
    obtain ⟨v0, hv0⟩ := scalR_rep hr
    refine ⟨r, v0, hk, .rep _ _ hv0.1, fun w' hw => ?_⟩
    unfold Oper.quietAt
    rw [run_call h1 h2 h3 h4 w']
    have S := hs.world hw
    obtain ⟨_, hR⟩ := hR rfl
    refine ⟨rfl, (hR w' (bigF w' g.F) (c.args.map a.eval) (fun b hb => bigF_out hb (S.out b hb)) ?_).mono ?_⟩
    · have L := later_below hs hw
      have hvs' : Both (RepT w0.heap.size w' g.F g.tok f g.box) vs (c.args.toList.map a.eval) := ⟨hvs.1, fun i x v hx hv => (hvs.2 i x v hx hv).later L (fun _ _ h => h)⟩
      have := both_sees hvs' (hv rfl) (R' := Rep w'.heap.size w' (bigF w' g.F) [] [] []) (fun x y v hS hx => hS (bigF w' g.F) S.boxrep (bigF_le w' g.F) bigF_cells hx w'.heap.size [])
      simpa using this
    · rintro en w'' ⟨v, F', tok, box, rfl, hb, _, _, _, _, _, hrep⟩
      exact ⟨by rw [hv0.2 v hrep], hw.trans (hb.less hw.size)⟩
  · obtain ⟨x, v, hk, hx, hg⟩ := aVal_sound ops hs.env hs.boxrep h
    refine ⟨x, v, hk, hx, fun w' hw => ?_⟩
    unfold Oper.quietAt
    rw [hg w' hw.toBelow]
    exact ⟨rfl, rfl⟩

theorem aDraw_sound {ops : Array Oper} {Q : Act → Prop} {k : Env → Prop} (hgd : guardsOk ops.toList = true) (hdst : dstsOk n ops.toList = true) {bx : List ABox} {f : Fr}
    (hk : ∀ e' a', Sim mo n w0 F0 box0 g ⟨e', bx, f⟩ a' w → k e' → Q a') :
    ∀ (l : List Oper), (∀ o ∈ l, o ∈ ops.toList) → ∀ (e : Env) (a : Act), Sim mo n w0 F0 box0 g ⟨e, bx, f⟩ a w →
      aDraw (ACon mo P) k bx (l.map fun o => ⟨o.dst, o.guard.map fun g => (dstAt ops.toList g.1, g.2), cOp P ops.toList o⟩) e → wpQuiet P ops (Bel mo w.heap.size w) Q l a
  | [], _, e, a, hs, h => hk _ _ hs h
  | o :: l, hl, e, a, hs, h => by
    have ih := aDraw_sound hgd hdst hk l (fun o ho => hl o (by simp [ho]))
    have hd : ∀ i, o.dst = some i → i < n := fun i hi => by
      have := List.all_eq_true.1 hdst o (hl o (by simp))
      rw [hi] at this; simpa using this
    have one : ∀ {x : AV} {v : Value}, (∀ w', Bel mo w.heap.size w w' → o.quietAt P a (Bel mo w.heap.size w) w' v) → RepT w0.heap.size w g.F g.tok f g.box x v →
        aDraw (ACon mo P) k bx (l.map fun o => ⟨o.dst, o.guard.map fun g => (dstAt ops.toList g.1, g.2), cOp P ops.toList o⟩) (put e o.dst x) →
        o.quiet P a (Bel mo w.heap.size w) (wpQuiet P ops (Bel mo w.heap.size w) Q l) := fun {x v} hq hx hk' => ⟨v, hq, ih _ _ (hs.put hd hx) hk'⟩
    cases hgu : o.guard with
    | none =>
      unfold wpQuiet
      have hw : Region.wanted o (yielded ops a.tmps) = true := by simp [Region.wanted, hgu]
      rw [if_pos hw]
      simp only [List.map_cons, aDraw, hgu, Option.map_none] at h
      split at h
      · rename_i x hop
        have hmv : o.op = .move x ∨ o.op = .assign x := by
          unfold cOp at hop
          cases ho : o.op <;> simp only [ho] at hop
          case move y => cases hop; exact .inl rfl
          case assign y => cases hop; exact .inr rfl
          all_goals first | cases hop | ((repeat' split at hop) <;> cases hop)
        exact one (v := a.eval x) (fun w' _ => by
          unfold Oper.quietAt
          have : (execOp a.eval o).run P w' = .ok (.value (a.eval x)) w' := by rcases hmv with h | h <;> simp [execOp, h]
          rw [this]; exact ⟨rfl, rfl⟩) (ev_sound hs.env x) h
      · obtain ⟨x, v, hk', hx, hq⟩ := aQuiet_quiet ops.toList hs h
        exact one hq hx hk'
    | some jw =>
      obtain ⟨j, want⟩ := jw
      simp only [List.map_cons, aDraw, hgu, Option.map_some] at h
      have hjd : ((ops[j]?).bind (·.dst)).isSome = true := by
        have := List.all_eq_true.1 hgd o (hl o (by simp))
        rw [hgu] at this
        simpa using this
      obtain ⟨gd, hq, hw⟩ := guard_sound hs.env hgu hjd (fun d hd' => by
        rw [hs.size]
        obtain ⟨oj, hoj, hdj⟩ := Option.bind_eq_some_iff.1 hd'
        have := List.all_eq_true.1 hdst oj (by simpa using Array.mem_of_getElem? hoj)
        rw [hdj] at this; simpa using this) h
      unfold wpQuiet
      rw [hw]
      cases gd with
      | true =>
        rw [if_pos rfl]
        obtain ⟨x, v, hk', hx, hq'⟩ := aQuiet_quiet ops.toList hs hq
        exact ⟨v, hq', ih _ _ (hs.put hd (.cond true x v (fun _ => hx) (fun h => by cases h))) hk'⟩
      | false =>
        rw [if_neg (by simp)]
        obtain ⟨x, hx⟩ := aQuiet_ex hq
        exact ih _ _ (hs.put hd (.cond false x undef (fun h => by cases h) (fun _ => rfl))) hx
/-! a region that draws its order: reads come first, calls wait for one another -/
theorem aQuiet_leadsB (ops : List Oper) (hs : Sim mo n w0 F0 box0 g ⟨e, bx, f⟩ a w) {k : AV → Prop} (h : aQuiet (ACon mo P) (cOp P ops o) true e bx k) :
    ∀ (next : Act → World → Prop) (Q : Exit → Act → World → Prop),
      (∀ g' x v w', Sim mo n w0 F0 box0 g' ⟨e, bx, f⟩ a w' → RepT w0.heap.size w' g'.F g'.tok f g'.box x v → k x → Bel mo w.heap.size w w' → (quietOp o = true → w' = w) → next (a.put o.dst v) w') → o.wp P a w next Q := by
  intro next Q hnext
  unfold aQuiet at h
  split at h
  · rename_i fid args hop
    obtain ⟨c, fn, h1, h2, h3, h4, rfl⟩ := cOp_call hop
    obtain ⟨vs, hv, hvs⟩ := evs_sound hs.env h
    have hq : ¬ quietOp o = true := by unfold quietOp; simp [h1, h2]
    obtain ⟨ys, r, hR, hr, hv, hk⟩ := hv
    refine leads_callsB (lend := false) (k := fun x bx' f' => bx' = bx ∧ f' = f ∧ k x) hs hvs (fun _ => by rw [run_call h1 h2 h3 h4 w]; congr 2; apply Array.ext'; simp) (.scal ys r (hR rfl) hr (hv rfl) ⟨rfl, rfl, hk⟩) next Q ?_
    rintro g' bx' f' x v w' S hx ⟨rfl, rfl, hk⟩ hb
    exact hnext g' x v w' S hx hk (hb rfl) (fun h => absurd h hq)
  · obtain ⟨x, v, hk, hx, hg⟩ := aVal_sound ops hs.env hs.boxrep h
    unfold Oper.wp
    rw [hg w (Below.refl _ _)]
    exact hnext g x v w hs hx hk (Bel.refl _ _) (fun _ => rfl)

theorem mv_inv {ops : List Oper} {x : Operand} (hop : cOp P ops o = .mv x) : ∀ w', (execOp a.eval o).run P w' = .ok (.value (a.eval x)) w' := by
  have hmv : o.op = .move x ∨ o.op = .assign x := by
    unfold cOp at hop
    cases ho : o.op <;> simp only [ho] at hop
    case move y => cases hop; exact .inl rfl
    case assign y => cases hop; exact .inr rfl
    all_goals first | cases hop | ((repeat' split at hop) <;> cases hop)
  intro w'
  rcases hmv with h | h <;> simp [execOp, h]

theorem held_one {ops : Array Oper} {i : Nat} (ho : ops[i]? = some o) (hgd : guardsOk ops.toList = true) (hdst : dstsOk n ops.toList = true) (hs : Sim mo n w0 F0 box0 g ⟨e, bx, f⟩ a w)
    {k : Env → List ABox → Fr → Prop} {rest : List AO} (h : aHeld (ACon mo P) k (aoAt P ops i :: rest) e bx f) {Q' : Exit → Act → World → Prop} {K : Act → World → Prop}
    (hK : ∀ g' e' bx' f' a' w', Sim mo n w0 F0 box0 g' ⟨e', bx', f'⟩ a' w' → Bel mo w.heap.size w w' → (quietOp o = true → w' = w) → aHeld (ACon mo P) k rest e' bx' f' → K a' w') : wpOp P ops Q' i K a w := by
  have hmem : o ∈ ops.toList := by simpa using Array.mem_of_getElem? ho
  have hd : ∀ i, o.dst = some i → i < n := fun i hi => by
    have := List.all_eq_true.1 hdst o hmem
    rw [hi] at this; simpa using this
  have hao : aoAt P ops i = aoOf P ops.toList o := by unfold aoAt; rw [ho]
  rw [hao] at h
  unfold wpOp
  simp only [ho]
  cases hgu : o.guard with
  | none =>
    have hw : Region.wanted o (yielded ops a.tmps) = true := by simp [Region.wanted, hgu]
    rw [if_pos hw]
    left
    simp only [aHeld, aoOf, hgu, Option.map_none] at h
    split at h
    · rename_i fid args hop
      obtain ⟨c, fn, h1, h2, h3, h4, rfl⟩ := cOp_call hop
      obtain ⟨vs, hv, hvs⟩ := evs_sound hs.env h
      have hq : ¬ quietOp o = true := by unfold quietOp; simp [h1, h2]
      refine leads_callsB hs hvs (fun _ => by rw [run_call h1 h2 h3 h4 w]; congr 2; apply Array.ext'; simp) hv _ _ ?_
      intro g' bx' f' x v w' S hx hk hb
      exact hK g' _ bx' f' _ w' (S.put hd hx) (hb rfl) (fun h => absurd h hq) hk
    · rename_i x hop
      unfold Oper.wp
      rw [mv_inv hop w]
      exact hK g _ bx f _ w (hs.put hd (ev_sound hs.env x)) (Bel.refl _ _) (fun _ => rfl) h
    · obtain ⟨x, v, hk, hx, hg⟩ := aVal_sound ops.toList hs.env hs.boxrep h
      unfold Oper.wp
      rw [hg w (Below.refl _ _)]
      exact hK g _ bx f _ w (hs.put hd hx) (Bel.refl _ _) (fun _ => rfl) hk
  | some jw =>
    obtain ⟨j, want⟩ := jw
    simp only [aHeld, aoOf, hgu, Option.map_some] at h
    have hjd : ((ops[j]?).bind (·.dst)).isSome = true := by
      have := List.all_eq_true.1 hgd o hmem
      rw [hgu] at this
      simpa using this
    obtain ⟨gd, hq, hw⟩ := guard_sound hs.env hgu hjd (fun d hd' => by
      rw [hs.size]
      obtain ⟨oj, hoj, hdj⟩ := Option.bind_eq_some_iff.1 hd'
      have := List.all_eq_true.1 hdst oj (by simpa using Array.mem_of_getElem? hoj)
      rw [hdj] at this; simpa using this) h
    rw [hw]
    cases gd with
    | true =>
      rw [if_pos rfl]
      left
      refine aQuiet_leadsB ops.toList hs hq _ _ ?_
      intro g' x v w' S hx hk hb hqq
      exact hK g' _ bx f _ w' (S.put hd (.cond true x v (fun _ => hx) (fun h => by cases h))) hb hqq hk
    | false =>
      rw [if_neg (by simp)]
      obtain ⟨x, hx⟩ := aQuiet_ex hq
      exact hK g _ bx f _ w (hs.put hd (.cond false x undef (fun h => by cases h) (fun _ => rfl))) (Bel.refl _ _) (fun _ => rfl) hx

theorem held_quiet {ops : Array Oper} {i : Nat} (ho : ops[i]? = some o) (hqo : quietOp o = true) (hgd : guardsOk ops.toList = true) (hdst : dstsOk n ops.toList = true) (hs : Sim mo n w0 F0 box0 g ⟨e, bx, f⟩ a w)
    {k : Env → List ABox → Fr → Prop} {rest : List AO} (h : aHeld (ACon mo P) k (aoAt P ops i :: rest) e bx f) :
    ∃ v e', YieldsIf P ops (Bel mo w.heap.size w) o v a ∧ Sim mo n w0 F0 box0 g ⟨e', bx, f⟩ (a.put o.dst v) w ∧ aHeld (ACon mo P) k rest e' bx f := by
  have hmem : o ∈ ops.toList := by simpa using Array.mem_of_getElem? ho
  have hd : ∀ i, o.dst = some i → i < n := fun i hi => by
    have := List.all_eq_true.1 hdst o hmem
    rw [hi] at this; simpa using this
  have hao : aoAt P ops i = aoOf P ops.toList o := by unfold aoAt; rw [ho]
  rw [hao] at h
  have nocall : ∀ {fid args}, cOp P ops.toList o = .call fid args → False := fun {fid args} hop => by
    obtain ⟨c, fn, h1, h2, h3, h4, rfl⟩ := cOp_call hop
    revert hqo; unfold quietOp; simp [h1, h2]
  cases hgu : o.guard with
  | none =>
    have hw : Region.wanted o (yielded ops a.tmps) = true := by simp [Region.wanted, hgu]
    simp only [aHeld, aoOf, hgu, Option.map_none] at h
    split at h
    · rename_i fid args hop; exact (nocall hop).elim
    · rename_i x hop
      exact ⟨_, _, .inl ⟨hw, fun w' _ => mv_inv hop w'⟩, hs.put hd (ev_sound hs.env x), h⟩
    · obtain ⟨x, v, hk, hx, hg⟩ := aVal_sound ops.toList hs.env hs.boxrep h
      exact ⟨_, _, .inl ⟨hw, fun w' hw' => hg w' hw'.toBelow⟩, hs.put hd hx, hk⟩
  | some jw =>
    obtain ⟨j, want⟩ := jw
    simp only [aHeld, aoOf, hgu, Option.map_some] at h
    have hjd : ((ops[j]?).bind (·.dst)).isSome = true := by
      have := List.all_eq_true.1 hgd o hmem
      rw [hgu] at this
      simpa using this
    obtain ⟨gd, hq, hw⟩ := guard_sound hs.env hgu hjd (fun d hd' => by
      rw [hs.size]
      obtain ⟨oj, hoj, hdj⟩ := Option.bind_eq_some_iff.1 hd'
      have := List.all_eq_true.1 hdst oj (by simpa using Array.mem_of_getElem? hoj)
      rw [hdj] at this; simpa using this) h
    cases gd with
    | true =>
      unfold aQuiet at hq
      split at hq
      · rename_i fid args hop; exact (nocall hop).elim
      · obtain ⟨x, v, hk, hx, hg⟩ := aVal_sound ops.toList hs.env hs.boxrep hq
        exact ⟨_, _, .inl ⟨hw, fun w' hw' => hg w' hw'.toBelow⟩, hs.put hd (.cond true x v (fun _ => hx) (fun h => by cases h)), hk⟩
    | false =>
      obtain ⟨x, hx⟩ := aQuiet_ex hq
      exact ⟨undef, _, .inr ⟨hw, rfl⟩, hs.put hd (.cond false x undef (fun h => by cases h) (fun _ => rfl)), hx⟩

/-! whichever order: below number z with a condition on the world, then one after the other -/
def wpAnyT (P : Program) (ops : Array Oper) (Q : Exit → Act → World → Prop) (S : World → Prop) (L : Array Bool → Act → World → Prop) : Nat → Array Bool → Act → World → Prop
  | 0, listed, a, w => L listed a w
  | m + 1, listed, a, w => Region.ready .any ops listed ≠ [] ∧ ∀ i ∈ Region.ready .any ops listed, wpOp P ops Q i (fun a' w' => S w' ∧ wpAnyT P ops Q S L m (listed.setIfInBounds i true) a' w') a w

theorem wpAny_of_T {ops : Array Oper} {Q : Exit → Act → World → Prop} {S : World → Prop} {L : Array Bool → Act → World → Prop} {r : Nat} (hL : ∀ listed a w, L listed a w → wpAny P .any ops Q r listed a w) :
    ∀ (m : Nat) (listed : Array Bool) (a : Act) (w : World), wpAnyT P ops Q S L m listed a w → wpAny P .any ops Q (m + r) listed a w
  | 0, listed, a, w, h => by rw [Nat.zero_add]; exact hL _ _ _ h
  | m + 1, listed, a, w, h => by
    rw [show m + 1 + r = (m + r) + 1 by omega]
    exact ⟨fun h0 => absurd h0 h.1, fun i hi => wpOp_mono (fun a' w' h' => wpAny_of_T hL m _ a' w' h'.2) (h.2 i hi)⟩

theorem wpAnyT_first {ops : Array Oper} {Q : Exit → Act → World → Prop} {S : World → Prop} {L : Array Bool → Act → World → Prop} {z i : Nat} {oi : Oper} {v : Value} (hi : ops[i]? = some oi)
    (hsel : ∀ (j : Nat) (o : Oper) cs b, ops[j]? = some o → o.op ≠ .select cs b) (hQ : ∀ c a w, Q (.panic c) (a.put oi.dst v) w → Q (.panic c) a w)
    (hs : Region.sinkB .any ops z = true) (hc : Region.chainB .any ops z = true) (hz : z < ops.size) (hiz : i < z) (hL : ∀ listed a w, L listed a w → ∀ j ∈ Region.ready .any ops listed, z ≤ j) :
    ∀ (m : Nat) (listed : Array Bool) (a : Act) (w : World), HeadInv .any ops z listed →
      (∀ j oj, ops[j]? = some oj → j ≠ i → listed.getD j true = false → (∀ e ∈ oj.after, Region.binds .any e = true → e.on ≠ i) → oi.apart ops oj = true) →
      i ∈ Region.ready .any ops listed → YieldsIf P ops S oi v a → S w →
      wpAnyT P ops Q S L m (listed.setIfInBounds i true) (a.put oi.dst v) w → wpAnyT P ops Q S L (m + 1) listed a w := by
  intro m
  induction m with
  | zero =>
    intro listed a w inv _ hr hy hS H
    have hun := (mem_ready.1 hr).1
    refine ⟨fun h => (by rw [h] at hr; cases hr), fun j hj => ?_⟩
    by_cases hji : j = i
    · subst hji; exact hy.wpOp hi hS ⟨hS, H⟩
    · have h1 := hL _ _ _ H j (ready_mono hj hji)
      exact absurd hj (tail_waits hs hc hz inv _ i rfl hiz hun j h1)
  | succ m ih =>
    intro listed a w inv hfree hr hy hS H
    have hun := (mem_ready.1 hr).1
    refine ⟨fun h => (by rw [h] at hr; cases hr), fun j hj => ?_⟩
    by_cases hji : j = i
    · subst hji; exact hy.wpOp hi hS ⟨hS, H⟩
    · have hjz : j < z := by
        rcases Nat.lt_or_ge j z with h | h
        · exact h
        · exact absurd hj (tail_waits hs hc hz inv _ i rfl hiz hun j h)
      have h1 := H.2 j (ready_mono hj hji)
      obtain ⟨hjun, oj, hoj, hall⟩ := mem_ready.1 hj
      have hnot : ∀ e ∈ oj.after, Region.binds .any e = true → e.on ≠ i := fun e he hb heq => by
        have h2 := hall e he hb
        rw [heq, getD_both hun] at h2
        cases h2
      have h2 := wpOp_putIf hoj (hfree j oj hoj hji hjun hnot) (fun cs b => hsel i oi cs b hi) (fun cs b => hsel j oj cs b hoj) hQ hy h1
      refine wpOp_mono (fun a' w' h3 => ⟨h3.2.1, ih (listed.setIfInBounds j true) a' w' (inv.set hj hjz) (fun k ok hk hki hku hno => ?_) (ready_mono hr (Ne.symm hji)) h3.1 h3.2.1 ?_⟩) h2
      · refine hfree k ok hk hki ?_ hno
        by_cases hjk : j = k
        · subst hjk; exact hjun
        · rw [getD_set_ne true hjk] at hku; exact hku
      · rw [Array.setIfInBounds_comm _ _ hji]
        exact h3.2.2

/-- all below t have come, none from t on -/
structure AtT (ops : Array Oper) (t : Nat) (listed : Array Bool) : Prop where
  lo : ∀ j, j < t → listed.getD j false = true
  hi : ∀ j, t ≤ j → j < ops.size → listed.getD j true = false

theorem AtT.ready {ops : Array Oper} {z t : Nat} {listed : Array Bool} (hA : AtT ops t listed) (hz : z ≤ t) (ht : t < ops.size) (hc : Region.chainB .any ops z = true) (hb : tailB ops z = true) : Region.ready .any ops listed = [t] := by
  have hmem : ∀ j, j ∈ Region.ready .any ops listed ↔ j = t := fun j => by
    rw [mem_ready]
    constructor
    · rintro ⟨h0, o, ho, hall⟩
      have hj := (Array.getElem?_eq_some_iff.1 ho).1
      rcases Nat.lt_trichotomy j t with h | h | h
      · have h1 := hA.lo j h
        rcases Nat.lt_or_ge j listed.size with h' | h'
        · simp [h'] at h0 h1; rw [h0] at h1; cases h1
        · simp [Array.getElem?_eq_none h'] at h1
      · exact h
      · have h1 := List.all_eq_true.1 hc j (List.mem_range.2 hj)
        simp only [Bool.or_eq_true, decide_eq_true_eq] at h1
        rcases h1 with h1 | h1
        · omega
        · obtain ⟨o', ho', e, he, hbi, hon⟩ := Region.waitsFor_spec h1
          have : o' = o := Option.some.inj (ho'.symm.trans ho)
          subst this
          have h2 := hall e he hbi
          have h3 := getD_both (hA.hi (j - 1) (by omega) (by omega))
          rw [hon, h3] at h2
          cases h2
    · rintro rfl
      have ho : ops[j]? = some ops[j] := Array.getElem?_eq_getElem ht
      refine ⟨hA.hi j (Nat.le_refl _) ht, ops[j], ho, fun e he hbi => ?_⟩
      have h1 := List.all_eq_true.1 hb j (List.mem_range.2 ht)
      simp only [Bool.or_eq_true, decide_eq_true_eq, ho] at h1
      rcases h1 with h1 | h1
      · omega
      · have h2 := Array.all_eq_true_iff_forall_mem.1 h1 e he
        simp only [hbi, Bool.not_true, Bool.false_or, decide_eq_true_eq] at h2
        exact hA.lo _ h2
  have hnd : (Region.ready .any ops listed).Nodup := List.Nodup.sublist (List.filter_sublist ..) List.nodup_range
  match hr : Region.ready .any ops listed with
  | [] => have := (hmem t).2 rfl; rw [hr] at this; cases this
  | [j] => have := (hmem j).1 (by rw [hr]; simp); rw [this]
  | j :: k :: r =>
    have h1 := (hmem j).1 (by rw [hr]; simp)
    have h2 := (hmem k).1 (by rw [hr]; simp)
    rw [hr] at hnd
    have := (List.nodup_cons.1 hnd).1
    rw [h1, h2] at this
    simp at this

theorem AtT.set {ops : Array Oper} {t : Nat} {listed : Array Bool} (hA : AtT ops t listed) (hl : listed.size = ops.size) (ht : t < ops.size) : AtT ops (t + 1) (listed.setIfInBounds t true) := by
  refine ⟨fun j hj => ?_, fun j hj hj' => ?_⟩
  · by_cases h : t = j
    · subst h; simp [hl, ht]
    · rw [getD_set_ne false h]; exact hA.lo j (by omega)
  · rw [getD_set_ne true (by omega)]; exact hA.hi j (by omega) hj'

/-- the rest, one after the other -/
theorem wpAny_tail {ops : Array Oper} {Q : Exit → Act → World → Prop} {z : Nat} (hc : Region.chainB .any ops z = true) (hb : tailB ops z = true) :
    ∀ (m t : Nat) (listed : Array Bool) (a : Act) (w : World), t + m = ops.size → z ≤ t → listed.size = ops.size → AtT ops t listed → wpList P ops Q (ops.toList.drop t) a w → wpAny P .any ops Q m listed a w
  | 0, t, listed, a, w, hm, _, hl, hA, h => by
    have hr : Region.ready .any ops listed = [] := by
      apply List.eq_nil_iff_forall_not_mem.2
      intro j hj
      obtain ⟨h0, o, ho, _⟩ := mem_ready.1 hj
      have hj' := (Array.getElem?_eq_some_iff.1 ho).1
      have h1 := hA.lo j (by omega)
      have h2 := getD_both h0
      rw [h1] at h2; cases h2
    rw [List.drop_eq_nil_of_le (by simp; omega)] at h
    exact ⟨hr, h⟩
  | m + 1, t, listed, a, w, hm, hz, hl, hA, h => by
    have ht : t < ops.size := by omega
    have hr := hA.ready hz ht hc hb
    refine ⟨fun h0 => (by rw [hr] at h0; cases h0), fun i hi => ?_⟩
    rw [hr] at hi
    have : i = t := by simpa using hi
    subst this
    have hd : ops.toList.drop i = ops[i] :: ops.toList.drop (i + 1) := by rw [List.drop_eq_getElem_cons (by simpa using ht)]; simp
    rw [hd] at h
    unfold wpOp
    rw [Array.getElem?_eq_getElem ht]
    simp only
    unfold wpList at h
    have ih : ∀ a' w', wpList P ops Q (ops.toList.drop (i + 1)) a' w' → wpAny P .any ops Q m (listed.setIfInBounds i true) a' w' := fun a' w' h' => wpAny_tail hc hb m (i + 1) _ a' w' (by omega) (by omega) (by simp [hl]) (hA.set hl ht) h'
    split
    · rename_i hw
      rw [if_pos hw] at h
      rcases h with h | h
      · exact .inl (Oper.wp_mono ih h)
      · exact .inr h
    · rename_i hw
      rw [if_neg hw] at h
      exact ih _ _ h

theorem aHeld_sound {ops : Array Oper} (hgd : guardsOk ops.toList = true) (hdst : dstsOk n ops.toList = true) (hsel : Region.noSelect ops = true) {z : Nat} (hsk : Region.sinkB .any ops z = true) (hch : Region.chainB .any ops z = true) (hzs : z < ops.size)
    {ws : World} {k : Env → List ABox → Fr → Prop} {Q' : Exit → Act → World → Prop} {L : Array Bool → Act → World → Prop}
    (hQ : ∀ c a w, ¬ Q' (.panic c) a w) (hLz : ∀ listed a w, L listed a w → ∀ j ∈ Region.ready .any ops listed, z ≤ j)
    (hk : ∀ listed g' e' bx' f' a' w', HeadInv .any ops z listed → Region.ready .any ops listed = [z] → Sim mo n w0 F0 box0 g' ⟨e', bx', f'⟩ a' w' → k e' bx' f' → L listed a' w') :
    ∀ (m : Nat) (fresh : Bool) (listed : Array Bool) (ord : List Nat), heldGo ops z m fresh listed = some ord → ∀ (g : G) (e : Env) (bx : List ABox) (f : Fr) (a : Act) (w : World), HeadInv .any ops z listed → Sim mo n w0 F0 box0 g ⟨e, bx, f⟩ a w →
      Bel mo ws.heap.size ws w → (fresh = true → w = ws) → aHeld (ACon mo P) k (ord.map (aoAt P ops)) e bx f → wpAnyT P ops Q' (Bel mo ws.heap.size ws) L m listed a w
  | 0, fresh, listed, ord, ho, g, e, bx, f, a, w, inv, hs, hb, hf, h => by
    unfold heldGo at ho
    split at ho
    · rename_i hr
      cases ho
      exact hk _ _ _ _ _ _ _ inv (by simpa using hr) hs h
    · cases ho
  | m + 1, fresh, listed, ord, ho, g, e, bx, f, a, w, inv, hs, hb, hf, h => by
    unfold heldGo at ho
    split at ho
    · rename_i i hr
      split at ho
      · rename_i hiz
        split at ho
        · rename_i l hl
          cases ho
          have hmem : i ∈ Region.ready .any ops listed := by rw [hr]; simp
          obtain ⟨_, oi, hoi, _⟩ := mem_ready.1 hmem
          refine ⟨by rw [hr]; simp, fun j hj => ?_⟩
          rw [hr] at hj
          have : j = i := by simpa using hj
          subst this
          refine held_one hoi hgd hdst hs h ?_
          intro g' e' bx' f' a' w' S hb' hq' h'
          refine ⟨hb.trans (hb'.less hb.size), aHeld_sound hgd hdst hsel hsk hch hzs hQ hLz hk m _ _ l hl g' e' bx' f' a' w' (inv.set hmem hiz) S (hb.trans (hb'.less hb.size)) (fun hfr => ?_) h'⟩
          rw [Bool.and_eq_true] at hfr
          have hqi : quietOp oi = true := by have := hfr.2; unfold quietIx at this; rw [hoi] at this; exact this
          rw [hq' hqi]; exact hf hfr.1
        · cases ho
      · cases ho
    · split at ho
      · rename_i i hfi
        split at ho
        · rename_i l hl
          cases ho
          have hmem := List.mem_of_find?_eq_some hfi
          have hp := List.find?_some hfi
          simp only [Bool.and_eq_true, decide_eq_true_eq] at hp
          obtain ⟨⟨⟨hiz, hfr⟩, hqi⟩, hfree⟩ := hp
          obtain ⟨_, oi, hoi, _⟩ := mem_ready.1 hmem
          have hqi' : quietOp oi = true := by unfold quietIx at hqi; rw [hoi] at hqi; exact hqi
          have hw := hf hfr
          subst hw
          obtain ⟨v, e', hy, S, h'⟩ := held_quiet hoi hqi' hgd hdst hs h
          exact wpAnyT_first hoi (Region.noSelect_spec hsel) (fun c a w h => absurd h (hQ c _ w)) hsk hch hzs hiz hLz m listed a w inv (Region.free_spec hoi hfree) hmem hy hb
            (aHeld_sound hgd hdst hsel hsk hch hzs hQ hLz hk m _ _ l hl g e' bx f _ _ (inv.set hmem hiz) S hb (fun _ => rfl) h')
        · cases ho
      · cases ho
end
end Abs
end Go.Proofs.Ytamcaplpgmloiaa
