/-
  The operations that make or write memory, and calls: one law each.
-/
import Derived.Test.YtamcaplpgmloiaaSound9
import Derived.Lib.OthersKept
import Derived.Laws.MakeOwn
namespace Go.Proofs.Ytamcaplpgmloiaa
namespace Abs
variable {mo : Bool}
open Go.RowKit

section lists
theorem fillAt_flatten {α : Type} (sz : Nat) : ∀ (css : List (List α)) (k : Nat) (pre post : List α), (∀ c ∈ css, c.length = sz) → pre.length = k * sz → post.length = css.length * sz →
    fillAt (pre ++ post) ((List.range' k css.length).map (· * sz)) css = pre ++ css.flatten
  | [], k, pre, post, _, _, h => by
    have : post = [] := List.eq_nil_of_length_eq_zero (by simpa using h)
    simp [fillAt, this]
  | c :: css, k, pre, post, hc, hk, hp => by
    have hcl := hc c (by simp)
    have hp' : post.length = sz + css.length * sz := by rw [hp, List.length_cons, Nat.add_mul, Nat.one_mul, Nat.add_comm]
    rw [List.length_cons, List.range'_succ, List.map_cons, fillAt, ← hk, setAt_mid c pre post (by omega), fillAt_flatten sz css (k + 1) (pre ++ c) (post.drop c.length) (fun x hx => hc x (by simp [hx]))
      (by rw [List.length_append, hk, hcl, Nat.add_mul, Nat.one_mul]) (by rw [List.length_drop, hp', hcl]; omega)]
    simp

theorem flatten_get {α : Type} (sz : Nat) : ∀ (css : List (List α)) (i j : Nat) (c : List α) (x : α), (∀ c ∈ css, c.length = sz) → css[i]? = some c → c[j]? = some x → css.flatten[i * sz + j]? = some x
  | [], i, j, c, x, _, h, _ => by simp at h
  | d :: css, 0, j, c, x, hc, h, hj => by
    simp at h; subst h
    rw [Nat.zero_mul, Nat.zero_add, List.flatten_cons, List.getElem?_append_left (getElem?_lt hj)]; exact hj
  | d :: css, i + 1, j, c, x, hc, h, hj => by
    have hd := hc d (by simp)
    rw [List.flatten_cons, List.getElem?_append_right (by rw [hd, Nat.add_mul]; omega), hd, show (i + 1) * sz + j - sz = i * sz + j by rw [Nat.add_mul]; omega]
    exact flatten_get sz css i j c x (fun c hx => hc c (by simp [hx])) (by simpa using h) hj

theorem length_flatten' {α : Type} (sz : Nat) : ∀ (css : List (List α)), (∀ c ∈ css, c.length = sz) → css.flatten.length = css.length * sz
  | [], _ => by simp
  | c :: css, h => by
    rw [List.flatten_cons, List.length_append, length_flatten' sz css (fun x hx => h x (by simp [hx])), h c (by simp), List.length_cons, Nat.add_mul, Nat.one_mul, Nat.add_comm]

theorem setAt_take {α : Type} (m : Nat) : ∀ (xs cs : List α) (o : Nat), (setAt cs o xs).take m = setAt (cs.take m) o xs
  | [], _, _ => rfl
  | x :: xs, cs, o => by rw [setAt, setAt_take m xs, setAt, List.take_set]

theorem both_fillAt {α β : Type} {R : α → β → Prop} : ∀ {os : List Nat} {us : List (List α)} {vs : List (List β)} {xs : List α} {ys : List β}, Both R xs ys → Both (Both R) us vs → Both R (fillAt xs os us) (fillAt ys os vs)
  | [], us, vs, xs, ys, h, _ => by cases us <;> cases vs <;> exact h
  | o :: os, [], [], xs, ys, h, _ => h
  | o :: os, [], _ :: _, _, _, _, h => by simp [Both] at h
  | o :: os, _ :: _, [], _, _, _, h => by simp [Both] at h
  | o :: os, u :: us, v :: vs, xs, ys, h, k => by
    obtain ⟨k1, k2⟩ := Both.cons.1 k
    exact both_fillAt (xs := setAt xs o u) (ys := setAt ys o v) (h.setAt o k1) k2
theorem both_flatten {α β : Type} {R : α → β → Prop} {sz : Nat} : ∀ {us : List (List α)} {vs : List (List β)}, Both (Both R) us vs → (∀ u ∈ us, u.length = sz) → Both R us.flatten vs.flatten
  | [], [], _, _ => ⟨rfl, by simp⟩
  | [], _ :: _, h, _ => by simp [Both] at h
  | _ :: _, [], h, _ => by simp [Both] at h
  | u :: us, v :: vs, h, k => by
    obtain ⟨h1, h2⟩ := Both.cons.1 h
    obtain ⟨h3, h4⟩ := both_flatten h2 (fun u hu => k u (by simp [hu]))
    refine ⟨by simp only [List.flatten_cons, List.length_append, h1.1, h3], fun i x y hx hy => ?_⟩
    rw [List.flatten_cons, List.getElem?_append] at hx hy
    have := h1.1
    split at hx
    · rename_i hi; rw [if_pos (by omega)] at hy; exact h1.2 i x y hx hy
    · rename_i hi; rw [if_neg (by omega)] at hy; exact h4 _ x y hx (by rw [this]; exact hy)
end lists

section
variable {P : Program} {n : Nat} {w0 : World} {F0 : Nat → Nat} {box0 : List BId} {g : G} {e : Env} {bx : List ABox} {f : Fr} {a : Act} {w : World} {o : Oper}

/-- What an operation leads to. -/
def Leads (mo : Bool) (P : Program) (n : Nat) (w0 : World) (F0 : Nat → Nat) (box0 : List BId) (e : Env) (a : Act) (o : Oper) (w : World) (k : AV → List ABox → Fr → Prop) : Prop :=
  ∀ (next : Act → World → Prop) (Q : Exit → Act → World → Prop),
    (∀ g' bx' f' x v w', Sim mo n w0 F0 box0 g' ⟨e, bx', f'⟩ a w' → RepT w0.heap.size w' g'.F g'.tok f' g'.box x v → k x bx' f' → next (a.put o.dst v) w') → o.wp P a w next Q

theorem leads_val {k : AV → List ABox → Fr → Prop} {g' : G} {bx' : List ABox} {f' : Fr} {x : AV} {v : Value} {w' : World} (hr : (execOp a.eval o).run P w = .ok (.value v) w')
    (hs : Sim mo n w0 F0 box0 g' ⟨e, bx', f'⟩ a w') (hx : RepT w0.heap.size w' g'.F g'.tok f' g'.box x v) (hk : k x bx' f') : Leads mo P n w0 F0 box0 e a o w k := fun next Q hn => by
  unfold Oper.wp
  rw [hr]
  exact hn _ _ _ _ _ _ hs hx hk

theorem leads_does (hs : Sim mo n w0 F0 box0 g ⟨e, bx, f⟩ a w) {k : AV → List ABox → Fr → Prop} (h : Does P w0.heap.size w g.F g.tok f g.box a o fun v => k v bx f) : Leads mo P n w0 F0 box0 e a o w k := by
  obtain ⟨x, v, hk, hx, hg⟩ := h
  exact leads_val (hg w (Below.refl _ _)) hs hx hk

theorem cell_alloc (w : World) (c : Array Value) (t : TypeId) (q : Nat) : (w.alloc (.cells c t)).cell? ⟨w.heap.size, q, none⟩ = c[q]? := by
  simp

theorem leads_box (hs : Sim mo n w0 F0 box0 g ⟨e, bx, f⟩ a w) {t : TypeId} {x : Operand} {k : AV → List ABox → Fr → Prop} (ho : o.op = .box t x)
    (h : evG true e x fun x => cellsK x fun cs => k (.bptr bx.length 0) (bx ++ [.cells .var cs]) f) : Leads mo P n w0 F0 box0 e a o w k := by
  obtain ⟨y, h, hy⟩ := evG_sound hs.env h
  obtain ⟨cs, hk, hcs⟩ := cellsK_sound h hy
  have hbl := hs.boxlen
  simp only at hbl
  have hext : ∀ (j : Nat) d, g.box[j]? = some d → (g.box ++ [BId.blk w.heap.size 0])[j]? = some d := fun j d h => by rw [List.getElem?_append_left (getElem?_lt h)]; exact h
  have S := hs.newBox (.cells (a.eval x).cells t) 0 (.cells .var cs) ⟨(a.eval x).cells, t, heap_alloc_new w _, by have := hcs.1; simp at this; omega, fun i z hz => by
    have hi : i < (a.eval x).cells.size := by have := getElem?_lt hz; have := hcs.1; simp at this; omega
    have h1 := hcs.2 i z ((a.eval x).cells.getD i undef) hz (by simp [Array.getD, hi])
    exact ⟨h1.1.later (later_alloc hs _) hext, h1.2⟩, trivial⟩
  refine leads_val (w' := w.alloc (.cells (a.eval x).cells t)) (v := .pointer (some ⟨w.heap.size, 0, none⟩)) ?_ S (.rep _ _ (.bptr _ _ _ 0 (by simp [← hbl]))) hk
  simp [execOp, ho, Instr.box, newVar, newRow]

theorem leads_alloc (hs : Sim mo n w0 F0 box0 g ⟨e, bx, f⟩ a w) {t : TypeId} {z : Value} {k : AV → List ABox → Fr → Prop} (ho : o.op = .alloc t) (hz : zeroOf P t = some z) (h1 : z.cells.all (·.oneCell') = true)
    (hk : k (.bptr bx.length 0) (bx ++ [.cells .var (z.cells.toList.map constAV)]) f) : Leads mo P n w0 F0 box0 e a o w k := by
  have hbl := hs.boxlen
  simp only at hbl
  have S := hs.newBox (.cells z.cells t) 0 (.cells .var (z.cells.toList.map constAV)) ⟨z.cells, t, heap_alloc_new w _, by simp, fun i y hy => by
    rw [List.getElem?_map] at hy
    obtain ⟨u, hu, rfl⟩ := Option.map_eq_some_iff.1 hy
    have hu' : z.cells[i]? = some u := by simpa using hu
    have hi := (Array.getElem?_eq_some_iff.1 hu').1
    have e1 : z.cells.getD i undef = u := by simp [Array.getD, hi, (Array.getElem?_eq_some_iff.1 hu').2]
    rw [e1]
    exact ⟨constAV_rep _, (Array.all_eq_true_iff_forall_mem.1 h1) u (Array.mem_of_getElem? hu')⟩, trivial⟩
  unfold zeroOf at hz
  split at hz
  · rename_i i hi
    refine leads_val (w' := w.alloc (.cells z.cells t)) (v := .pointer (some ⟨w.heap.size, 0, none⟩)) ?_ S (.rep _ _ (.bptr _ _ _ 0 (by simp [← hbl]))) hk
    simp [execOp, ho, Instr.alloc, zeroValue, typeInfo, hi, hz, newVar, newRow]
  · cases hz

theorem leads_make (hs : Sim mo n w0 F0 box0 g ⟨e, bx, f⟩ a w) {t : TypeId} {l c : Operand} {k : AV → List ABox → Fr → Prop} (ho : o.op = .makeSlice t l c) (hg : goodElem P t = true)
    (hz1 : zeroOne P (elemTy P t) = true) (hlc : sameTmp l c = true)
    (h : evG true e l fun l => gInt l fun _ m => Need (0 ≤ m ∧ (bytesOf P (elemTy P t) : Int) * m ≤ 281474976710656 ∧ m ≤ 1099511627776)
      (k (.bsl bx.length m.toNat) (bx ++ [.cells (.row (elemTy P t) (P.cellsOf (elemTy P t))) (madeK (zeroCells P (elemTy P t)) (m.toNat * P.cellsOf (elemTy P t)))]) f)) : Leads mo P n w0 F0 box0 e a o w k := by
  obtain ⟨el, ti, z, hu, hi, hz, hzs, hpos, _, hel, hcz⟩ := goodElem_inv hg
  have hlc' : c = l := by
    unfold sameTmp at hlc
    split at hlc
    · simp at hlc; rw [hlc]
    · cases hlc
  subst hlc'
  obtain ⟨y, h1, hy⟩ := evG_sound hs.env h
  obtain ⟨kd, m, rfl, hn, hk⟩ := gInt_inv h1
  obtain ⟨h0, hb, hm⟩ := hn
  have hzo : zeroOf P (elemTy P t) = some z := by unfold zeroOf; rw [hel, hi]; exact hz
  have hby : bytesOf P (elemTy P t) = ti.bytes := by unfold bytesOf; rw [hel, hi]
  unfold zeroOne at hz1
  unfold zeroCells at hk
  rw [hzo] at hz1 hk
  rw [hel, hcz] at hk
  rw [hby] at hb
  simp only at hz1 hk
  have hr := run_make (P := P) w t el ti z hu hi hz kd kd m m h0 (Int.le_refl _) hb (by omega)
  have hbl := hs.boxlen
  simp only at hbl
  have S := hs.newBox (.cells (madeCells z.cells (m.toNat * ti.size)) el) m.toNat (.cells (.row el ti.size) (madeK z.cells.toList (m.toNat * ti.size))) ⟨_, el, heap_alloc_new w _, by simp [madeK, size_madeCells], fun i x hx => by
    simp only [madeK, List.getElem?_map] at hx
    obtain ⟨q, hq, rfl⟩ := Option.map_eq_some_iff.1 hx
    have hlt : i < m.toNat * ti.size := by have := getElem?_lt hq; simpa using this
    have hqi : q = i := by
      rw [List.getElem?_range hlt] at hq
      exact (Option.some.inj hq).symm
    subst hqi
    have hzpos : 0 < z.cells.size := by omega
    have hmod : q % z.cells.size < z.cells.size := Nat.mod_lt _ hzpos
    have e1 : (madeCells z.cells (m.toNat * ti.size)).getD q undef = z.cells[q % z.cells.size]'hmod := by
      simp [madeCells, Array.getD, hlt, hmod]
    have e2 : z.cells.toList.getD (q % z.cells.toList.length) undef = z.cells[q % z.cells.size]'hmod := by
      simp [List.getD, hmod]
    rw [e1, e2]
    exact ⟨constAV_rep _, (Array.all_eq_true_iff_forall_mem.1 hz1) _ (Array.getElem_mem hmod)⟩, rfl, by simp [size_madeCells], by unfold maxLen; omega⟩
  refine leads_val (w' := w.alloc (.cells (madeCells z.cells (m.toNat * ti.size)) el)) (v := .slice (some ⟨w.heap.size, 0, none⟩) m.toNat m.toNat) ?_ S (.rep _ _ (.bsl _ _ _ _ (by simp [← hbl]) (Nat.le_refl _))) hk
  simp only [execOp, ho, hy.val_inv, hr, Sem.run_bind, Result.andThen_ok, Sem.run_pure]

theorem both_flip_map {ps : List (Nat × Operand)} (a : Act) : (ps.map (·.2)).map a.eval = ps.map fun p => a.eval p.2 := by simp [List.map_map, Function.comp_def]

theorem leads_build (hs : Sim mo n w0 F0 box0 g ⟨e, bx, f⟩ a w) {t : TypeId} {ps : Array (Nat × Operand)} {places : List (Nat × Nat)} {z : Value} {k : AV → List ABox → Fr → Prop} (ho : o.op = .build t ps) (hp : structPlaces P t = some (places, z))
    (h1 : z.cells.all (·.oneCell') = true) (h2 : ps.toList.all (fun p => match places[p.1]? with | some q => decide (q.1 + q.2 ≤ z.cells.size) | none => false) = true)
    (h : evs true e (ps.toList.map (·.2)) fun vs => cellsKs vs fun cs => Need (cs.map List.length = (ps.toList.map fun p => places.getD p.1 (0, 0)).map (·.2))
      (k (.agg (fillAt (z.cells.toList.map constAV) ((ps.toList.map fun p => places.getD p.1 (0, 0)).map (·.1)) cs)) bx f)) : Leads mo P n w0 F0 box0 e a o w k := by
  obtain ⟨vs, h, hvs⟩ := evs_sound hs.env h
  obtain ⟨cs, h, hcs⟩ := cellsKs_sound h hvs
  obtain ⟨hlen, hk⟩ := h
  have hplace : ∀ p ∈ ps.toList, ∃ q, places[p.1]? = some q ∧ places.getD p.1 (0, 0) = q ∧ q.1 + q.2 ≤ z.cells.size := fun p hp => by
    have := List.all_eq_true.1 h2 p hp
    split at this
    · rename_i q hq; exact ⟨q, hq, by simp [List.getD, hq], by simpa using this⟩
    · cases this
  obtain ⟨cells', hf, hc'⟩ := fill_run (places.toArray[·]?) (ps.toList.map fun p => (p.1, a.eval p.2)) z.cells (ps.toList.map fun p => places.getD p.1 (0, 0))
    (by
      rw [List.map_map, List.map_map]
      refine List.map_congr_left fun p hp => ?_
      obtain ⟨q, hq, hq', _⟩ := hplace p hp
      simp [hq, List.getD])
    (by
      rw [← hlen]
      have e1 : cs.map List.length = (((ps.toList.map (·.2)).map a.eval).map fun v => v.cells.toList).map List.length := by
        apply List.ext_getElem?
        intro i
        rw [List.getElem?_map, List.getElem?_map]
        rcases Nat.lt_or_ge i cs.length with hi | hi
        · have hi' : i < (((ps.toList.map (·.2)).map a.eval).map fun v => v.cells.toList).length := by rw [← hcs.1]; exact hi
          have := (hcs.2 i _ _ (List.getElem?_eq_getElem hi) (List.getElem?_eq_getElem hi')).1
          rw [List.getElem?_eq_getElem hi, List.getElem?_eq_getElem hi']
          simp only [Option.map_some, this]
        · rw [List.getElem?_eq_none hi, List.getElem?_eq_none (by rw [← hcs.1]; exact hi)]
          rfl
      rw [e1]
      simp [List.map_map, Function.comp_def])
    (fun q hq => by
      obtain ⟨p, hp, rfl⟩ := List.mem_map.1 hq
      obtain ⟨q, _, hq', hle⟩ := hplace p hp
      rw [hq']; exact hle)
  have hB : Both (CellR w0.heap.size w g.F g.tok f g.box) (fillAt (z.cells.toList.map constAV) ((ps.toList.map fun p => places.getD p.1 (0, 0)).map (·.1)) cs) cells'.toList := by
    rw [hc']
    refine both_fillAt (both_map_val fun v hv => (Array.all_eq_true_iff_forall_mem.1 h1) v (by simpa using hv)) ?_
    have : ((ps.toList.map fun p => (p.1, a.eval p.2)).map fun p => p.2.cells.toList) = ((ps.toList.map (·.2)).map a.eval).map fun v => v.cells.toList := by simp [List.map_map, Function.comp_def]
    rw [this]; exact hcs
  have hget : ∀ i, i < cells'.size → cells'.toList[i]? = some (cells'.getD i undef) := fun i hi => by simp [Array.getD, hi]
  have hrun : (execOp a.eval o).run P w = .ok (.value (.agg cells')) w := by
    have hb : P.built t (ps.map fun (i, x) => (i, a.eval x)).toList = some cells' := by
      unfold structPlaces at hp
      split at hp
      · rename_i it fields hit hu
        split at hp
        · rename_i z' places' hz' hm
          simp only [Option.some.injEq, Prod.mk.injEq] at hp
          obtain ⟨rfl, rfl⟩ := hp
          simp only [Program.built, hit, hu, hz', hm]
          simpa using hf
        · cases hp
      · cases hp
    simp only [execOp, ho, Sem.run_bind, run_build w t _ cells' hb, Result.andThen_ok, Sem.run_pure]
  refine leads_val hrun hs (.rep _ _ (.agg _ _ (by simpa using hB.1) (fun i hi => ?_) (fun i c hc => ?_))) hk
  · obtain ⟨x, hx⟩ : ∃ x, (fillAt (z.cells.toList.map constAV) ((ps.toList.map fun p => places.getD p.1 (0, 0)).map (·.1)) cs)[i]? = some x := by
      have hl := hB.1; simp only [Array.length_toList] at hl
      exact ⟨_, List.getElem?_eq_getElem (by omega)⟩
    exact (hB.2 i x _ hx (hget i hi)).2
  · have hl := hB.1; simp only [Array.length_toList] at hl
    have := getElem?_lt hc
    exact (hB.2 i c _ hc (hget i (by omega))).1

theorem leads_store (hs : Sim mo n w0 F0 box0 g ⟨e, bx, f⟩ a w) {t : TypeId} {p x : Operand} {k : AV → List ABox → Fr → Prop} (ho : o.op = .store t p x) (hok : okTy P t = true)
    (h : evG true e p fun p => evG true e x fun x => cellsK x fun cs => match p with
      | .bptr j off => match bx[j]? with
        | some (.cells rk old) => Need (cs.length = P.cellsOf t ∧ off + P.cellsOf t ≤ old.length) (k (.val (.tuple #[])) (bx.set j (.cells rk (setAt old off cs))) f)
        | _ => Stop
      | _ => Stop) : Leads mo P n w0 F0 box0 e a o w k := by
  obtain ⟨pv, h1, hpv⟩ := evG_sound hs.env h
  clear h
  obtain ⟨xv, h2, hxv⟩ := evG_sound hs.env h1
  clear h1
  obtain ⟨cs, h, hcs⟩ := cellsK_sound h2 hxv
  clear h2
  simp only [okTy, Bool.and_eq_true, Option.isSome_iff_exists] at hok
  obtain ⟨_, ⟨ti, hi⟩⟩ := hok
  have hsz : P.cellsOf t = ti.size := by simp [Program.cellsOf, hi]
  split at h
  · rename_i j off
    split at h
    · rename_i rk old hold
      obtain ⟨⟨hl, hle⟩, hk⟩ := h
      obtain ⟨b, cap, hb, hpe⟩ := hpv.bptr_inv
      obtain ⟨c, ct, hh, hcsz, hc, hrk⟩ := hs.boxrep j _ _ hb hold
      have hlive : live bx j := fun h => by rw [hold] at h; cases h
      have hvl : (a.eval x).cells.toList.length = P.cellsOf t := by rw [← hcs.1, hl]
      have hst := run_storeCells_at P b off ct (a.eval x).cells.toList 0 c w hh (by rw [hvl]; omega) (fun v hv => by
        obtain ⟨i, hi'⟩ := List.getElem?_of_mem hv
        obtain ⟨y, hy⟩ : ∃ y, cs[i]? = some y := ⟨_, List.getElem?_eq_getElem (by rw [hcs.1]; exact getElem?_lt hi')⟩
        exact (hcs.2 i y v hy hi').2)
      simp only [Nat.add_zero] at hst
      have e1 : c.toList.take off ++ (a.eval x).cells.toList ++ c.toList.drop (off + (a.eval x).cells.toList.length) = setAt c.toList off (a.eval x).cells.toList := by
        have := setAt_mid (a.eval x).cells.toList (c.toList.take off) (c.toList.drop off) (by rw [hvl, List.length_drop, Array.length_toList]; omega)
        rw [List.take_append_drop, List.length_take, Array.length_toList, Nat.min_eq_left (by omega), List.drop_drop] at this
        rw [this]
      rw [e1] at hst
      have hset := setRow_heap w b c (setAt c.toList off (a.eval x).cells.toList).toArray ct (0, 0) hh
      have hbut : But b w (w.setRow b (setAt c.toList off (a.eval x).cells.toList).toArray) := ⟨Nat.le_refl _, rfl, rfl, rfl, by simp, fun k hk => setRow_other w b k _ hk⟩
      have hold2 : Both (CellR w0.heap.size w g.F g.tok f g.box) old (c.toList.take old.length) := ⟨by simp; omega, fun i y v hy hv => by
        rw [List.getElem?_take] at hv
        split at hv
        · have hv' : c[i]? = some v := by simpa using hv
          have hi' := (Array.getElem?_eq_some_iff.1 hv').1
          have e2 : c.getD i undef = v := by simp [Array.getD, hi', (Array.getElem?_eq_some_iff.1 hv').2]
          have := hc i y hy
          rw [e2] at this
          exact this
        · cases hv⟩
      have hnew := hold2.setAt off hcs
      rw [← setAt_take] at hnew
      have S := hs.turnBox hb hlive hbut (x := .cells rk (setAt old off cs)) (by simp) (fun keep => ⟨_, ct, hset, by simp [length_setAt]; omega, fun i y hy => by
        have hio := getElem?_lt hy
        rw [length_setAt] at hio
        have hi' : i < (setAt c.toList off (a.eval x).cells.toList).length := by rw [length_setAt]; simp; omega
        have e2 : (setAt c.toList off (a.eval x).cells.toList).toArray.getD i undef = (setAt c.toList off (a.eval x).cells.toList)[i] := by simp [Array.getD, hi']
        rw [e2]
        have := hnew.2 i y _ hy (by rw [List.getElem?_take, if_pos hio]; exact List.getElem?_eq_getElem hi')
        exact ⟨keep _ _ this.1, this.2⟩, by simpa [length_setAt] using hrk⟩)
      intro next Q hn
      have hrun : (execOp a.eval o).run P w = .ok .skip (w.setRow b (setAt c.toList off (a.eval x).cells.toList).toArray) := by
        have h5 : (a.eval x).cells.size = ti.size := by rw [← hsz, ← hvl]; simp
        simp [execOp, ho, hpe, Instr.storeAt, Instr.sureAddr, storeVar, sizeOf, typeInfo, hi, h5, hst]
      unfold Oper.wp
      rw [hrun]
      exact hn _ _ _ _ _ _ S (.rep _ _ (.val _)) hk
    · exact h.no
  · exact h.no

theorem leads_range (hs : Sim mo n w0 F0 box0 g ⟨e, bx, f⟩ a w) {t : TypeId} {x : Operand} {k : AV → List ABox → Fr → Prop} (ho : o.op = .range t x) (ht : P.underlying t = some .string)
    (h : evG true e x fun x => match x with | .str s => k (.bptr bx.length 0) (bx ++ [.iter s 0]) f | _ => Stop) : Leads mo P n w0 F0 box0 e a o w k := by
  obtain ⟨xv, h, hxv⟩ := evG_sound hs.env h
  split at h
  · rename_i s
    have hbl := hs.boxlen
    simp only at hbl
    have S := hs.newBox (.stringIter ⟨s.toArray⟩ 0) 0 (.iter s 0) (heap_alloc_new w _)
    refine leads_val (w' := w.alloc (.stringIter ⟨s.toArray⟩ 0)) (v := .pointer (some ⟨w.heap.size, 0, none⟩)) ?_ S (.rep _ _ (.bptr _ _ _ 0 (by simp [← hbl]))) h
    simp only [execOp, ho, hxv.str_inv, mkS, Sem.run_bind, run_range_string w t _ ht, Result.andThen_ok, Sem.run_pure, World.iter]
  · exact h.no

theorem leads_next (hs : Sim mo n w0 F0 box0 g ⟨e, bx, f⟩ a w) {x : Operand} {k : AV → List ABox → Fr → Prop} (ho : o.op = .next x true)
    (h : evG true e x fun x => match x with
      | .bptr j 0 => match bx[j]? with
        | some (.iter s pos) => Fork (decide (pos < s.length))
            (k (.tup [.val (.bool true), .val (.int .i64 pos), .val (.int .i32 (decodeS s pos).1)]) (bx.set j (.iter s (pos + (decodeS s pos).2))) f)
            (k (.tup [.val (.bool false)]) bx f)
        | _ => Stop
      | _ => Stop) : Leads mo P n w0 F0 box0 e a o w k := by
  obtain ⟨xv, h, hxv⟩ := evG_sound hs.env h
  split at h
  · rename_i j
    split at h
    · rename_i s pos hold
      obtain ⟨b, cap, hb, hpe⟩ := hxv.bptr_inv
      have hh : w.heap[b]? = some (.stringIter ⟨s.toArray⟩ pos) := hs.boxrep j _ _ hb hold
      have hlive : live bx j := fun h => by rw [hold] at h; cases h
      obtain ⟨h1, h2⟩ := h
      by_cases hp : pos < s.length
      · have hk := h1 (by simp [hp])
        have hr := Lib.run_next_any_at (P := P) w b ⟨s.toArray⟩ pos o.type hh hp
        have hlt : b < w.heap.size := (hs.boxin j b cap hb).2
        have S := hs.turnBox hb hlive (w' := w.iterAt b ⟨s.toArray⟩ (pos + (decodeS s pos).2)) (x := .iter s (pos + (decodeS s pos).2)) (hxd := by simp)
          ⟨Nat.le_refl _, rfl, rfl, rfl, by simp [World.iterAt], fun k hk => by simp [World.iterAt, Ne.symm hk]⟩
          (fun _ => by show (w.iterAt b ⟨s.toArray⟩ _).heap[b]? = _; simp [World.iterAt, hlt])
        refine leads_val (v := .tuple #[.bool true, .int .i64 pos, .int .i32 (decodeS s pos).1]) (w' := w.iterAt b ⟨s.toArray⟩ (pos + (decodeS s pos).2)) ?_ S (.rep _ _ (.tup _ _ rfl (fun i c hc => ?_))) hk
        · simp only [execOp, ho, hpe, Sem.run_bind, hr, Result.andThen_ok, Sem.run_pure, decodeS]
        · match i, hc with
          | 0, hc => cases hc; exact .val _
          | 1, hc => cases hc; exact .val _
          | 2, hc => cases hc; exact .val _
          | i + 3, hc => simp at hc
      · have hk := h2 (by simp [hp])
        have hr := Lib.run_next_end_at (P := P) w b ⟨s.toArray⟩ pos o.type hh hp
        refine leads_val (v := .tuple #[.bool false]) (w' := w) ?_ hs (.rep _ _ (.tup _ _ rfl (fun i c hc => ?_))) hk
        · simp only [execOp, ho, hpe, Sem.run_bind, hr, Result.andThen_ok, Sem.run_pure]
        · match i, hc with
          | 0, hc => cases hc; exact .val _
          | i + 1, hc => simp at hc
    · exact h.no
  · exact h.no
end
end Abs
end Go.Proofs.Ytamcaplpgmloiaa
