/-
  Whole code: what the evaluator shows of it.
-/
import Derived.Test.YtamcaplpgmloiaaSound13
import Derived.Deep.LoopGhost
namespace Go.Proofs.Ytamcaplpgmloiaa
namespace Abs
variable {mo : Bool}
open Go.RowKit

section
variable {P : Program} {n : Nat} {w0 : World} {F0 : Nat → Nat} {box0 : List BId}

theorem look_norm (e : Env) (i : Nat) : ∀ K, look (norm e K) i = look e i ∨ look (norm e K) i = .any
  | [] => .inr rfl
  | j :: K => by
    rw [norm, look]
    by_cases h : i = j
    · rw [if_pos h, h]; exact .inl rfl
    · rw [if_neg h]; exact look_norm e i K

theorem Sim.norm {g : G} {s : St} {a : Act} {w : World} (h : Sim mo n w0 F0 box0 g s a w) (K : List Nat) : Sim mo n w0 F0 box0 g ⟨Abs.norm s.env K, s.bx, s.fr⟩ a w :=
  have he : EnvOk w0.heap.size w g.F g.tok s.fr g.box (Abs.norm s.env K) a := fun i => by
    rcases look_norm s.env i K with h1 | h1
    · rw [h1]; exact h.env i
    · rw [h1]; exact .rep _ _ (.any _)
  { h with env := he }

theorem agrees_look {e : Env} : ∀ {t : Env} {i : Nat}, agrees e t → look t i = look e i ∧ (∃ x, (i, x) ∈ t ∧ look t i = x) ∨ look t i = .any
  | [], i, _ => .inr rfl
  | (j, x) :: t, i, h => by
    rw [look]
    by_cases hi : i = j
    · subst hi
      rw [if_pos rfl]
      exact .inl ⟨h.1.symm, x, by simp, rfl⟩
    · rw [if_neg hi]
      rcases agrees_look h.2 (i := i) with ⟨h1, y, h2, h3⟩ | h
      · exact .inl ⟨h1, y, by simp [h2], h3⟩
      · exact .inr h

theorem inBL_mem {m : Nat} : ∀ {cs : List AV} {c : AV}, inB.inBL m cs → c ∈ cs → inB m c
  | d :: cs, c, h, hc => by
    rcases List.mem_cons.1 hc with rfl | hc
    · exact h.1
    · exact inBL_mem h.2 hc
theorem inBE_mem {m : Nat} : ∀ {e : Env} {p : Nat × AV}, inBE m e → p ∈ e → inB m p.2
  | q :: e, p, h, hp => by
    rcases List.mem_cons.1 hp with rfl | hp
    · exact h.1
    · exact inBE_mem h.2 hp
theorem inBX_get {m : Nat} : ∀ {b : List ABox} {i : Nat} {k : RK} {cs : List AV}, inBX m b → b[i]? = some (.cells k cs) → inB.inBL m cs
  | x :: b, 0, k, cs, h, hi => by simp at hi; subst hi; exact h.1
  | x :: b, i + 1, k, cs, h, hi => inBX_get h.2 (by simpa using hi)

theorem Rep.take {B : Nat} {w : World} {F : Nat → Nat} {tok : List (Option Nat)} {fr : Fr} {box : List BId} {m : Nat} {x : AV} {v : Value} (h : Rep B w F tok fr box x v) (hi : inB m x) : Rep B w F tok fr (box.take m) x v := by
  have get : ∀ {j : Nat} {d : BId}, j < m → box[j]? = some d → (box.take m)[j]? = some d := fun hj hd => by rw [List.getElem?_take, if_pos hj]; exact hd
  induction h with
  | any v => exact .any v
  | val v => exact .val v
  | str s => exact .str s
  | list o xs a cap sz b off vs hcap ha hsz hF hc hr ho => exact .list o xs a cap sz b off vs hcap ha hsz hF hc hr ho
  | agg cs vs h h1 _ ih => exact .agg cs vs h h1 (fun i c hc => ih i c hc (inBL_mem hi (List.mem_of_getElem? hc)) get)
  | tup cs vs h _ ih => exact .tup cs vs h (fun i c hc => ih i c hc (inBL_mem hi (List.mem_of_getElem? hc)) get)
  | rptr cs b off vs hF hc hr => exact .rptr cs b off vs hF hc hr
  | bptr j off b cap h => exact .bptr j off b cap (get hi h)
  | bsl j l b cap h hn => exact .bsl j l b cap (get hi h) hn
  | bnil j h => exact .bnil j (get hi h)
  | clo f first caps vf vc h1 h2 _ _ ih1 ih2 => exact .clo f first caps vf vc h1 h2 (fun i c hc => ih1 i c hc (inBL_mem hi.1 (List.mem_of_getElem? hc)) get) (fun i c hc => ih2 i c hc (inBL_mem hi.2 (List.mem_of_getElem? hc)) get)

theorem RepT.take {B : Nat} {w : World} {F : Nat → Nat} {tok : List (Option Nat)} {fr : Fr} {box : List BId} {m : Nat} {x : AV} {v : Value} (h : RepT B w F tok fr box x v) (hi : inB m x) : RepT B w F tok fr (box.take m) x v := by
  induction h with
  | rep x v h => exact .rep x v (h.take hi)
  | cond g x v _ hn ih => exact .cond g x v (fun hg => ih hg hi) hn

theorem Sim.weak {g : G} {s t : St} {a : Act} {w : World} (h : Sim mo n w0 F0 box0 g s a w) (hw : Weak box0.length s t) : ∃ g', Sim mo n w0 F0 box0 g' t a w := by
  have henv : EnvOk w0.heap.size w g.F g.tok s.fr g.box t.env a := fun i => by
    rcases agrees_look hw.env (i := i) with ⟨h1, _⟩ | h1
    · rw [h1]; exact h.env i
    · rw [h1]; exact .rep _ _ (.any _)
  have hbl := h.boxlen
  obtain ⟨te, tb, tf⟩ := t
  have hfr : s.fr = tf := hw.fr
  have hbx : s.bx.take tb.length = tb := hw.bx
  subst hfr
  rcases hw.refs with hle | ⟨hE, hX⟩
  · have hle' : s.bx.length ≤ tb.length := hle
    rw [List.take_of_length_le hle'] at hbx
    subst hbx
    exact ⟨g, { h with env := henv }⟩
  · have hE' : inBE tb.length te := hE
    have hX' : inBX tb.length tb := hX
    have hnb : box0.length ≤ tb.length := hw.nb
    have hget : ∀ {j : Nat} {d : BId}, (g.box.take tb.length)[j]? = some d → j < tb.length ∧ g.box[j]? = some d := fun {j d} hj => by
      rw [List.getElem?_take] at hj
      split at hj
      · exact ⟨by assumption, hj⟩
      · cases hj
    have htl : tb.length ≤ s.bx.length := by have := congrArg List.length hbx; simp at this; omega
    have hbj : ∀ {j : Nat}, j < tb.length → tb[j]? = s.bx[j]? := fun {j} hj => by have h1 := congrArg (fun l => l[j]?) hbx; simp only [List.getElem?_take, if_pos hj] at h1; exact h1.symm
    have hlive : ∀ {j : Nat}, j < tb.length → (live tb j ↔ live s.bx j) := fun hj => by unfold live; rw [hbj hj]
    refine ⟨{ g with box := g.box.take tb.length }, {
      defers := h.defers, size := h.size
      env := fun i => ?_
      below := h.below, old := h.old, out := h.out
      boxlen := by simp [hbl]; omega
      boxpre := fun j d hj => by
        have hjl := getElem?_lt hj
        show (g.box.take tb.length)[j]? = some d
        rw [List.getElem?_take, if_pos (by omega)]; exact h.boxpre j d hj
      boxin := fun j b c hj => h.boxin j b c (hget hj).2
      boxF := fun j b c hj hl => h.boxF j b c (hget hj).2 ((hlive (hget hj).1).1 hl)
      boxrep := fun j d x hj hx => ?_
      boxinj := fun i j b c c' hi hj li lj => h.boxinj i j b c c' (hget hi).2 (hget hj).2 ((hlive (hget hi).1).1 li) ((hlive (hget hj).1).1 lj)
      toklen := h.toklen
      tokin := h.tokin
      tokbox := fun k b j c hk hj hl => h.tokbox k b j c hk (hget hj).2 ((hlive (hget hj).1).1 hl)
      tokinj := h.tokinj }⟩
    · rcases agrees_look hw.env (i := i) with ⟨_, x, h2, h3⟩ | h1
      · have hx := henv i
        have h3' : look te i = x := h3
        show RepT _ _ _ _ _ _ (look te i) _
        simp only at hx
        rw [h3'] at hx ⊢
        exact hx.take (inBE_mem hE' h2)
      · show RepT _ _ _ _ _ _ (look te i) _
        rw [show look te i = .any from h1]; exact .rep _ _ (.any _)
    · obtain ⟨hjl, hj'⟩ := hget hj
      have hx' : tb[j]? = some x := hx
      have h0 := h.boxrep j d x hj' (by rw [← hbj hjl]; exact hx')
      cases d with
      | blk b c =>
        cases x with
        | cells k cs =>
          obtain ⟨c', t, h1, h2, h3, h4⟩ := h0
          exact ⟨c', t, h1, h2, fun i y hy => ⟨(h3 i y hy).1.take (inBL_mem (inBX_get hX' hx') (List.mem_of_getElem? hy)), (h3 i y hy).2⟩, h4⟩
        | iter s p => exact h0
        | dead => exact trivial
      | nil =>
        cases x with
        | cells k cs => exact h0
        | iter s p => exact h0
        | dead => exact trivial

theorem aCode_sound (K : List Nat) : ∀ (c : Code) (Q : Exit → St → Prop) (s : St), aCode (ACon mo P) K box0.length (cCode P n c) Q s → ∀ (g : G) (a : Act) (w : World), Sim mo n w0 F0 box0 g s a w →
    c.wp P (fun e a' w' => ∃ g' s', Sim mo n w0 F0 box0 g' s' a' w' ∧ Q e s') a w := by
  intro c
  induction c with
  | skip => intro Q s h g a w hs; exact wp_skip ⟨g, s, hs, h⟩
  | region id ops d =>
    intro Q s h g a w hs
    obtain ⟨e, b, f⟩ := s
    unfold cCode at h
    split at h
    · rename_i hh
      rw [Bool.and_eq_true] at hh
      obtain ⟨hgd, hdst⟩ := hh
      cases d with
      | false => exact wp_region_list (aOps_sound hgd hdst (fun g' e' bx' f' a' w' S hk => ⟨g', _, S, hk⟩) ops.toList (fun _ h => h) g e b f a w hs h)
      | true =>
        simp only at h
        split at h
        · rename_i hfo
          unfold cDraw at h
          split at h
          · rename_i zl hl
            obtain ⟨z, l⟩ := zl
            unfold heldOrd at hl
            split at hl
            · rename_i z' hz
              split at hl
              · rename_i l' hl'
                cases hl
                unfold heldZ at hz
                split at hz
                · rename_i hc
                  rw [Bool.and_eq_true] at hc
                  have hp := List.find?_some hz
                  have hzs := List.mem_range.1 (List.mem_of_find?_eq_some hz)
                  simp only [Bool.and_eq_true] at hp
                  obtain ⟨⟨hsk, hch⟩, htl⟩ := hp
                  refine wp_mono (Q := fun e a' w' => e = .normal ∧ ∃ g' s', Sim mo n w0 F0 box0 g' s' a' w' ∧ Q e s') (wp_region_any hfo ?_) (fun e a' w' h => h.2)
                  have hinv : HeadInv .any ops z (Array.replicate ops.size false) := ⟨by simp, fun j oj _ hl => (by rw [getD_replicate_false] at hl; cases hl), fun t _ ht' => (by simp [ht'])⟩
                  have := aHeld_sound (ws := w.drew) (z := z) (k := fun e b f => aOps (ACon mo P) (fun e b f => Q .normal ⟨e, b, f⟩) (cOps P ops.toList |>.drop z) e b f)
                    (Q' := fun e a' w' => e = .normal ∧ ∃ g' s', Sim mo n w0 F0 box0 g' s' a' w' ∧ Q e s')
                    (L := fun listed a' w' => HeadInv .any ops z listed ∧ Region.ready .any ops listed = [z] ∧ ∃ g' e' bx' f', Sim mo n w0 F0 box0 g' ⟨e', bx', f'⟩ a' w' ∧ aOps (ACon mo P) (fun e b f => Q .normal ⟨e, b, f⟩) (cOps P ops.toList |>.drop z) e' bx' f')
                    hgd hdst hc.2 hsk hch hzs (fun c a w h => by cases h.1) (fun listed a' w' h j hj => (by rw [h.2.1] at hj; exact Nat.le_of_eq (List.mem_singleton.1 hj).symm))
                    (fun listed g' e' bx' f' a' w' inv hr S hk => ⟨inv, hr, g', e', bx', f', S, hk⟩) z true _ l hl' g e b f a w.drew hinv (hs.world (Bel.refl _ _).drew) (Bel.refl _ _) (fun _ => rfl) h
                  have h2 := wpAny_of_T (r := ops.size - z) (fun listed a' w' hL => ?_) _ _ _ _ this
                  · rw [show z + (ops.size - z) = ops.size by omega] at h2
                    exact h2
                  · obtain ⟨inv, hr, g', e', bx', f', S, hk⟩ := hL
                    refine wpAny_tail hch htl (ops.size - z) z listed a' w' (by omega) (Nat.le_refl _) inv.size ⟨fun j hj => ?_, fun j hj hj' => inv.tail j hj hj'⟩ ?_
                    · cases hlj : listed.getD j false with
                      | true => rfl
                      | false => exact absurd (by rw [hr]; simp : z ∈ Region.ready .any ops listed) (tail_waits hsk hch hzs inv _ j rfl hj (getD_in (by rw [inv.size]; omega) hlj) z (Nat.le_refl _))
                    · refine aOps_sound (k := fun e b f => Q .normal ⟨e, b, f⟩) hgd hdst (fun g' e' bx' f' a' w' S hk => ⟨rfl, g', _, S, hk⟩) (ops.toList.drop z) (fun o ho => List.mem_of_mem_drop ho) g' e' bx' f' a' w' S ?_
                      unfold cOps at hk
                      rw [← List.map_drop] at hk
                      exact hk
                · cases hz
              · cases hl
            · cases hl
          · split at h
            · rename_i hlex
              refine wp_region_quiet (C := Bel mo w.heap.size w) hfo hlex (Bel.refl _ _).drew ?_
              exact aDraw_sound (g := g) (f := f) hgd hdst (fun e' a' S hk w' hw => ⟨g, _, S.world hw, hk⟩) ops.toList (fun _ h => h) e a hs h
            · exact h.no
        · exact h.no
    · exact h.no
  | seq x y ihx ihy =>
    intro Q s h g a w hs
    refine wp_seq (wp_mono (ihx _ s h g a w hs) ?_)
    rintro e a' w' ⟨g', s', S, hq⟩
    cases e with
    | normal => exact ihy Q s' hq g' a' w' S
    | _ => exact ⟨g', s', S, hq⟩
  | cond c x y ihx ihy =>
    intro Q s h g a w hs
    obtain ⟨e, bx, f⟩ := s
    obtain ⟨v, h1, hv⟩ := evG_sound hs.env h
    obtain ⟨b, rfl, h2⟩ := gBool_inv h1
    rw [forceEnv_eq, forceBx_eq] at h2
    obtain ⟨h3, h4⟩ := h2
    refine wp_cond hv.val_inv ?_
    cases b with
    | true => exact ihx Q _ (h3 rfl) g a w (hs.norm K)
    | false => exact ihy Q _ (h4 rfl) g a w (hs.norm K)
  | block id body ih =>
    intro Q s h g a w hs
    refine wp_block (wp_mono (ih _ s h g a w hs) ?_)
    rintro e a' w' ⟨g', s', S, hq⟩
    cases e with
    | exit id' =>
      simp only [blockK] at hq
      simp only [Exit.inBlock]
      split at hq
      · rename_i he; rw [if_pos he]; exact ⟨g', s', S, hq⟩
      · rename_i he; rw [if_neg he]; exact ⟨g', s', S, hq⟩
    | _ => exact ⟨g', s', S, hq⟩
  | loop body ih =>
    intro Q s h g a w hs
    obtain ⟨α, I, C, μ, ⟨x0, hc0, hw0⟩, hround⟩ := h
    obtain ⟨g0, S0⟩ := hs.weak hw0
    refine wp_loop_ghost (fun m a w => ∃ x g, C x ∧ μ x = m ∧ Sim mo n w0 F0 box0 g (I x) a w) (μ x0) ⟨x0, _, hc0, rfl, S0⟩ ?_
    rintro m a w ⟨x, g, hc, rfl, S⟩
    refine wp_mono (ih _ _ (hround x hc) g a w S) ?_
    rintro e a' w' ⟨g', s', S', hq⟩
    cases e with
    | normal =>
      obtain ⟨⟨x', hc', hw', hlt⟩⟩ := hq
      obtain ⟨g1, S1⟩ := S'.weak hw'
      exact ⟨μ x', hlt, x', _, hc', rfl, S1⟩
    | _ => exact ⟨g', s', S', hq⟩
  | exit id => intro Q s h g a w hs; exact wp_exit ⟨g, s, hs, h⟩
  | ret => intro Q s h g a w hs; exact wp_ret ⟨g, s, hs, h⟩
  | _ => intro Q s h g a w hs; exact h.no

end
end Abs
end Go.Proofs.Ytamcaplpgmloiaa
