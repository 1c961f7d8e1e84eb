/-
  Slices that the call makes, appends, calls; each operation of the evaluator.
-/
import Derived.Test.YtamcaplpgmloiaaSound10
namespace Go.Proofs.Ytamcaplpgmloiaa
namespace Abs
variable {mo : Bool}
open Go.RowKit

section
variable {P : Program} {n : Nat} {w0 : World} {F0 : Nat → Nat} {box0 : List BId} {g : G} {e : Env} {bx : List ABox} {f : Fr} {a : Act} {w : World} {o : Oper}

/-- a new block that is read from now on, of no token -/
theorem Sim.newRead (hs : Sim mo n w0 F0 box0 g ⟨e, bx, f⟩ a w) (o : Obj) (m : Nat) :
    Sim mo n w0 F0 box0 { F := setF g.F w.heap.size m, tok := g.tok, box := g.box } ⟨e, bx, f⟩ a (w.alloc o) := by
  have hb : Bel mo w.heap.size w (w.alloc o) := (Bel.refl _ _).alloc (Nat.le_refl _) o
  have h0 := hs.out w.heap.size (Nat.le_refl _)
  have L0 := later_alloc hs o
  have hsz : (w.alloc o).heap.size = w.heap.size + 1 := by simp
  have L : Later w g.F g.tok f (w.alloc o) (setF g.F w.heap.size m) g.tok f := by
    refine ⟨L0.cell, fun b => ?_, fun k t s n hk => ⟨n, hk, Nat.le_refl _, fun _ => ⟨rfl, fun b hb => ?_⟩⟩⟩
    · unfold setF; split
      · rename_i h; rw [h, h0]; exact Nat.zero_le _
      · exact Nat.le_refl _
    · have h1 := (hs.tokin k b hb).2
      exact ⟨Below.heap_alloc _ _ _ h1, by unfold setF; rw [if_neg (by omega)]⟩
  exact {
    defers := hs.defers, size := hs.size
    env := hs.env.later L (fun _ _ h => h)
    below := hs.below.trans hb
    old := fun b h => by have := hs.below.size; simp only [setF]; rw [if_neg (by omega)]; exact hs.old b h
    out := fun b h => by simp only [setF]; rw [if_neg (by omega)]; exact hs.out b (by omega)
    boxlen := hs.boxlen
    boxpre := hs.boxpre
    boxin := fun j b c h => by have := hs.boxin j b c h; exact ⟨this.1, by omega⟩
    boxF := fun j b c h hl => by
      have := (hs.boxin j b c h).2
      simp only [setF]; rw [if_neg (by omega)]; exact hs.boxF j b c h hl
    boxrep := hs.boxrep.later L (fun j b c h _ => hb.block b (hs.boxin j b c h).2)
    boxinj := hs.boxinj
    toklen := hs.toklen
    tokin := fun k b h => by have := hs.tokin k b h; exact ⟨this.1, by omega⟩
    tokbox := hs.tokbox
    tokinj := hs.tokinj }

/-- a row of cells that a call has just made reads as a list -/
theorem rep_row {B : Nat} {w' : World} {F' : Nat → Nat} {tok' : List (Option Nat)} {fr' : Fr} {bo : List BId} {o' : Option Nat} {cs : List (List AV)} {vss : List (List Value)} {b sz el : Nat}
    (hc : ∀ c ∈ cs, c.length = sz) (hB : Both (Both (CellR B w' F' tok' fr' [])) cs vss) (hh : w'.heap[b]? = some (.cells vss.flatten.toArray el (0, 0))) (hF : F' b = cs.length * sz)
    (ho : ∀ k, o' = some k → fr'[k]? = some (el, sz, cs.length) ∧ tok'[k]? = some (some b) ∧ B ≤ b) (h64 : cs.length ≤ 64) :
    Rep B w' F' tok' fr' bo (.list o' cs) (.slice (some ⟨b, 0, none⟩) cs.length cs.length) := by
  have hv : ∀ v ∈ vss, v.length = sz := fun v hv => by
    obtain ⟨i, hi⟩ := List.getElem?_of_mem hv
    obtain ⟨c, hci⟩ : ∃ c, cs[i]? = some c := ⟨_, List.getElem?_eq_getElem (by rw [hB.1]; exact getElem?_lt hi)⟩
    rw [← (hB.2 i c v hci hi).1, hc c (List.mem_of_getElem? hci)]
  have hfl := length_flatten' sz vss hv
  have hcell : ∀ q, w'.cell? ⟨b, q, none⟩ = vss.flatten[q]? := fun q => by simp [World.cell?, hh]
  have get : ∀ i e j c, cs[i]? = some e → e[j]? = some c → ∃ v u, vss[i]? = some v ∧ v[j]? = some u ∧ CellR B w' F' tok' fr' [] c u := fun i e j c hi hj => by
    obtain ⟨v, hv⟩ : ∃ v, vss[i]? = some v := ⟨_, List.getElem?_eq_getElem (by rw [← hB.1]; exact getElem?_lt hi)⟩
    have h1 := hB.2 i e v hi hv
    obtain ⟨u, hu⟩ : ∃ u, v[j]? = some u := ⟨_, List.getElem?_eq_getElem (by rw [← h1.1]; exact getElem?_lt hj)⟩
    exact ⟨v, u, hv, hu, h1.2 j c u hj hu⟩
  refine .list o' cs _ _ sz b 0 (fun i j => ((vss.getD i []).getD j undef)) (Nat.le_refl _) (fun _ => rfl) hc (fun _ => by rw [hF]; omega) (fun i e j c hi hj => ?_) (fun i e j c hi hj => ?_) (fun k hk => ?_)
  · obtain ⟨v, u, hv', hu, hcr⟩ := get i e j c hi hj
    have e1 : (vss.getD i []).getD j undef = u := by simp [List.getD, hv', hu]
    rw [e1, Nat.zero_add, hcell, flatten_get sz vss i j v u hv hv' hu]
    exact ⟨rfl, hcr.2⟩
  · obtain ⟨v, u, hv', hu, hcr⟩ := get i e j c hi hj
    have e1 : (vss.getD i []).getD j undef = u := by simp [List.getD, hv', hu]
    rw [e1]; exact hcr.1
  · obtain ⟨h1, h2, h3⟩ := ho k hk
    refine ⟨el, sz, cs.length, h1, Nat.le_refl _, fun _ => ⟨rfl, ⟨vss.flatten, by rw [hfl, hB.1], Or.inr ⟨b, cs.length, _, rfl, h3, hh, Nat.le_refl _, by unfold maxLen; omega, by simp [hfl, hB.1], ?_⟩⟩, h2, fun b' hb' => by cases hb'; exact hF⟩⟩
    rw [hB.1, ← hfl]; exact List.take_length

theorem both_append {α β : Type} {R : α → β → Prop} {xs xs' : List α} {ys ys' : List β} (h : Both R xs ys) (h' : Both R xs' ys') : Both R (xs ++ xs') (ys ++ ys') := by
  refine ⟨by simp [h.1, h'.1], fun i x y hx hy => ?_⟩
  rw [List.getElem?_append] at hx hy
  have := h.1
  split at hx
  · rename_i hi; rw [if_pos (by omega)] at hy; exact h.2 i x y hx hy
  · rename_i hi; rw [if_neg (by omega)] at hy; exact h'.2 _ x y hx (by rw [this]; exact hy)

/-- a row's values say what a box of it holds -/
theorem boxOk_row {B : Nat} {w' : World} {F' : Nat → Nat} {tok' : List (Option Nat)} {fr' : Fr} {bo : List BId} {b cap el sz : Nat} {cs : List AV} {c : Array Value} {vals rest : List Value} (hh : w'.heap[b]? = some (.cells c el (0, 0)))
    (hc : c.toList = vals ++ rest) (hB : Both (Rep B w' F' tok' fr' bo) cs vals) (h1 : ∀ u ∈ vals, u.oneCell' = true) (hl : (vals ++ rest).length = cap * sz) (hm : cap ≤ maxLen) : BoxOk B w' F' tok' fr' bo (.blk b cap) (.cells (.row el sz) cs) := by
  have hcs : c.size = (vals ++ rest).length := by rw [← hc]; simp
  refine ⟨_, el, hh, by have := hB.1; rw [hcs, List.length_append]; omega, fun i x hx => ?_, rfl, by omega, hm⟩
  have hi : i < vals.length := by have := getElem?_lt hx; rw [← hB.1]; exact this
  have e1 : c.getD i undef = vals[i] := by
    have h2 : i < c.size := by rw [hcs, List.length_append]; omega
    have h3 : c.toList[i]? = some vals[i] := by rw [hc, List.getElem?_append_left hi, List.getElem?_eq_getElem hi]
    have h4 : c[i]? = some vals[i] := by simpa using h3
    simp [Array.getD, h2, (Array.getElem?_eq_some_iff.1 h4).2]
  rw [e1]
  exact ⟨hB.2 i x _ hx (List.getElem?_eq_getElem hi), h1 _ (List.getElem_mem hi)⟩

theorem leads_bslice (hs : Sim mo n w0 F0 box0 g ⟨e, bx, f⟩ a w) {t : TypeId} {m : Nat} {ps : Array (Nat × Operand)} {own : Bool} {k : AV → List ABox → Fr → Prop} (ho : o.op = .buildSlice t m ps)
    (hg : goodElem P t = true) (hm : m ≤ 64) (hix : ps.toList.map (·.1) = List.range m)
    (h : evs true e (ps.toList.map (·.2)) fun vs => cellsKs vs fun cs => Need (cs.all (fun c => c.length == P.cellsOf (elemTy P t)) = true)
      (match own with
        | true => Need (cs.all (fun c => c.all noRef) = true) (k (.list (some f.length) cs) bx (f ++ [(elemTy P t, P.cellsOf (elemTy P t), cs.length)]))
        | false => Lit (elemTy P t) (P.cellsOf (elemTy P t)) cs bx f k)) : Leads mo P n w0 F0 box0 e a o w k := by
  obtain ⟨el, ti, z, hu, hi, hz, hzs, hpos, h64, hel, hcz⟩ := goodElem_inv hg
  rw [hel, hcz] at h
  obtain ⟨vs, h1, hvs⟩ := evs_sound hs.env h
  clear h
  obtain ⟨cs, h2, hcs⟩ := cellsKs_sound h1 hvs
  clear h1
  obtain ⟨hsz, hk⟩ := h2
  have hsz' : ∀ c ∈ cs, c.length = ti.size := fun c hc => by have := List.all_eq_true.1 hsz c hc; simpa using this
  have nr : cs.all (fun c => c.all noRef) = true → ∀ c ∈ cs, ∀ x ∈ c, noRef x = true := fun h c hc x hx => List.all_eq_true.1 (List.all_eq_true.1 h c hc) x hx
  have e1 : ((ps.toList.map (·.2)).map a.eval).map (fun v => v.cells.toList) = (ps.toList.map fun p => (p.1, a.eval p.2)).map fun p => p.2.cells.toList := by simp [List.map_map, Function.comp_def]
  rw [e1] at hcs
  have hlm : ps.toList.length = m := by have := congrArg List.length hix; simpa using this
  have hlc : cs.length = m := by rw [hcs.1]; simp [hlm]
  have hv : ∀ v ∈ (ps.toList.map fun p => (p.1, a.eval p.2)).map fun p => p.2.cells.toList, v.length = ti.size := fun v hv => by
    obtain ⟨i, hi'⟩ := List.getElem?_of_mem hv
    obtain ⟨c, hci⟩ : ∃ c, cs[i]? = some c := ⟨_, List.getElem?_eq_getElem (by rw [hcs.1]; exact getElem?_lt hi')⟩
    rw [← (hcs.2 i c v hci hi').1, hsz' c (List.mem_of_getElem? hci)]
  -- the run
  have hrun : (execOp a.eval o).run P w = .ok (.value (.slice (some ⟨w.heap.size, 0, none⟩) m m)) (w.alloc (.cells (((ps.toList.map fun p => (p.1, a.eval p.2)).map fun p => p.2.cells.toList).flatten).toArray el)) := by
    have key : ∀ (init : Array Value), init.size = m * ti.size → ∃ cells', Instr.fill (fun i => some (i * ti.size, ti.size)) init (ps.toList.map fun p => (p.1, a.eval p.2)) = some cells' ∧
        cells'.toList = ((ps.toList.map fun p => (p.1, a.eval p.2)).map fun p => p.2.cells.toList).flatten := by
      intro init hinit
      obtain ⟨cells', h1, h2⟩ := fill_run (fun i => some (i * ti.size, ti.size)) (ps.toList.map fun p => (p.1, a.eval p.2)) init ((List.range m).map fun i => (i * ti.size, ti.size))
        (by rw [← hix]; simp [List.map_map, Function.comp_def])
        (by
          have e2 : (ps.toList.map fun p => (p.1, a.eval p.2)).map (fun p => p.2.cells.size) = ((ps.toList.map fun p => (p.1, a.eval p.2)).map fun p => p.2.cells.toList).map List.length := by simp [List.map_map, Function.comp_def]
          have e3 : ((List.range m).map fun i => (i * ti.size, ti.size)).map (·.2) = List.replicate m ti.size := by
            apply List.ext_getElem?
            intro i
            simp only [List.map_map, List.getElem?_map, List.getElem?_replicate]
            rcases Nat.lt_or_ge i m with h | h <;> simp [h]
          have e4 : ((ps.toList.map fun p => (p.1, a.eval p.2)).map fun p => p.2.cells.toList).map List.length = List.replicate m ti.size := by
            rw [List.eq_replicate_iff]
            refine ⟨by simp [hlm], fun b hb => ?_⟩
            obtain ⟨v, hv', rfl⟩ := List.mem_map.1 hb
            exact hv v hv'
          rw [e2, e3, e4])
        (fun q hq => by
          obtain ⟨i, hi', rfl⟩ := List.mem_map.1 hq
          have : (i + 1) * ti.size ≤ m * ti.size := Nat.mul_le_mul_right _ (List.mem_range.1 hi')
          rw [Nat.add_mul] at this
          simp only; omega)
      refine ⟨cells', h1, ?_⟩
      have h3 := fillAt_flatten ti.size ((ps.toList.map fun p => (p.1, a.eval p.2)).map fun p => p.2.cells.toList) 0 [] init.toList hv (by simp) (by simp [hinit, hlm])
      rw [h2]
      simp only [List.nil_append, List.length_map, hlm] at h3
      rw [← h3, List.range_eq_range', List.map_map]
      rfl
    obtain ⟨cells', hf, hc'⟩ := key ((Array.range (m * ti.size)).map ((if m * ti.size = 0 then #[] else z.cells)[· % (if m * ti.size = 0 then #[] else z.cells).size]!)) (by simp)
    have hc'' : cells' = (((ps.toList.map fun p => (p.1, a.eval p.2)).map fun p => p.2.cells.toList).flatten).toArray := by apply Array.ext'; simpa using hc'
    have h24 : ¬ (16777216 < m * ti.size) := by have := Nat.mul_le_mul hm h64; omega
    have hf' : Instr.fill (fun i => some (i * ti.size, ti.size)) ((Array.range (m * ti.size)).map ((if m * ti.size = 0 then #[] else z.cells)[· % (if m * ti.size = 0 then #[] else z.cells).size]!)) (ps.map fun (i, x) => (i, a.eval x)).toList = some cells' := by simpa using hf
    by_cases hm0 : m * ti.size = 0
    · simp only [hm0, if_true] at hf'
      simp only [execOp, ho, Instr.buildSlice, Sem.run_bind, run_underlying hu, Result.andThen_ok, sizeOf, typeInfo, run_program, hi, Sem.run_pure, hm0, if_true, Sem.run_ite, show ¬ ((0 : Nat) > 2 ^ 24) by decide, if_false, hf', newRow, run_newObj, World.alloc_eq, hc'']
    · simp only [hm0, if_false] at hf'
      simp only [execOp, ho, Instr.buildSlice, Sem.run_bind, run_underlying hu, Result.andThen_ok, sizeOf, typeInfo, run_program, hi, Sem.run_pure, hm0, Sem.run_ite, show ¬ (m * ti.size > 2 ^ 24) from h24, if_false, zeroValue, hz, hf', newRow, run_newObj, World.alloc_eq, hc'']
  rw [← hlc] at hrun
  cases own with
  | true =>
    obtain ⟨hnr', hk⟩ := hk
    have hnr := nr hnr'
    have S := hs.newTok (.cells (((ps.toList.map fun p => (p.1, a.eval p.2)).map fun p => p.2.cells.toList).flatten).toArray el) (cs.length * ti.size) (el, ti.size, cs.length)
    have L := later_tok hs (.cells (((ps.toList.map fun p => (p.1, a.eval p.2)).map fun p => p.2.cells.toList).flatten).toArray el) (cs.length * ti.size) (some w.heap.size) (el, ti.size, cs.length)
    refine leads_val hrun S (.rep _ _ (rep_row hsz' ⟨hcs.1, fun i c v hc hv' => ⟨(hcs.2 i c v hc hv').1, fun j x u hx hu' => ⟨(((hcs.2 i c v hc hv').2 j x u hx hu').1.anyBox [] (hnr c (List.mem_of_getElem? hc) x (List.mem_of_getElem? hx))).later L (by simp), ((hcs.2 i c v hc hv').2 j x u hx hu').2⟩⟩⟩ (heap_alloc_new w _) (by simp [setF]) (fun k hk => ?_) (by omega))) hk
    cases hk
    refine ⟨by simp, ?_, hs.below.size⟩
    have := hs.toklen
    simp only at this
    rw [← this]; simp
  | false =>
   rcases hk with ⟨hnr', hk⟩ | hk
   · have hnr := nr hnr'
     have S := hs.newRead (.cells (((ps.toList.map fun p => (p.1, a.eval p.2)).map fun p => p.2.cells.toList).flatten).toArray el) (cs.length * ti.size)
     have L0 := later_alloc hs (.cells (((ps.toList.map fun p => (p.1, a.eval p.2)).map fun p => p.2.cells.toList).flatten).toArray el)
     have h0 := hs.out w.heap.size (Nat.le_refl _)
     have L : Later w g.F g.tok f (w.alloc (.cells (((ps.toList.map fun p => (p.1, a.eval p.2)).map fun p => p.2.cells.toList).flatten).toArray el)) (setF g.F w.heap.size (cs.length * ti.size)) g.tok f := by
       refine ⟨L0.cell, fun b => ?_, fun k t s n hk => ⟨n, hk, Nat.le_refl _, fun _ => ⟨rfl, fun b hb => ?_⟩⟩⟩
       · unfold setF; split
         · rename_i h; rw [h, h0]; exact Nat.zero_le _
         · exact Nat.le_refl _
       · have h1 := (hs.tokin k b hb).2
         exact ⟨Below.heap_alloc _ _ _ h1, by unfold setF; rw [if_neg (by omega)]⟩
     exact leads_val hrun S (.rep _ _ (rep_row (el := el) hsz' ⟨hcs.1, fun i c v hc hv' => ⟨(hcs.2 i c v hc hv').1, fun j x u hx hu' => ⟨(((hcs.2 i c v hc hv').2 j x u hx hu').1.anyBox [] (hnr c (List.mem_of_getElem? hc) x (List.mem_of_getElem? hx))).later L (by simp), ((hcs.2 i c v hc hv').2 j x u hx hu').2⟩⟩⟩ (heap_alloc_new w _) (by simp [setF]) (fun k hk => by cases hk) (by omega))) hk
   · have hfl : ((ps.toList.map fun p => (p.1, a.eval p.2)).map fun p => p.2.cells.toList).flatten.length = cs.length * ti.size := by rw [length_flatten' ti.size _ hv, hcs.1]
     have hcfl : cs.flatten.length = cs.length * ti.size := length_flatten' ti.size _ hsz'
     have hbl := hs.boxlen
     simp only at hbl
     have L0 := later_alloc hs (.cells (((ps.toList.map fun p => (p.1, a.eval p.2)).map fun p => p.2.cells.toList).flatten).toArray el)
     have hext : ∀ (j : Nat) d, g.box[j]? = some d → (g.box ++ [BId.blk w.heap.size cs.length])[j]? = some d := fun j d h => by rw [List.getElem?_append_left (getElem?_lt h)]; exact h
     have S := hs.newBox (.cells (((ps.toList.map fun p => (p.1, a.eval p.2)).map fun p => p.2.cells.toList).flatten).toArray el) cs.length (.cells (.row el ti.size) cs.flatten)
       (boxOk_row (rest := []) (heap_alloc_new w _) (by simp) ⟨(both_flatten (sz := ti.size) hcs hsz').1, fun i x u hx hu => ((both_flatten (sz := ti.size) hcs hsz').2 i x u hx hu).1.later L0 hext⟩ (fun u hu => by
          obtain ⟨i, hi⟩ := List.getElem?_of_mem hu
          have hB := both_flatten (sz := ti.size) hcs hsz'
          have hi' : i < cs.flatten.length := by rw [hB.1]; exact getElem?_lt hi
          exact (hB.2 i _ u (List.getElem?_eq_getElem hi') hi).2) (by rw [List.append_nil, hfl]) (by unfold maxLen; omega))
     exact leads_val hrun S (.rep _ _ (.bsl _ _ w.heap.size cs.length (by simp [← hbl]) (Nat.le_refl _))) hk

/-- a box that is not spoken of any more -/
theorem Sim.kill (hs : Sim mo n w0 F0 box0 g ⟨e, bx, f⟩ a w) (j : Nat) : Sim mo n w0 F0 box0 g ⟨e, bx.set j .dead, f⟩ a w := by
  have ld : ∀ {i : Nat}, live (bx.set j .dead) i → live bx i := fun {i} h => by
    unfold live at h ⊢
    rw [List.getElem?_set] at h
    by_cases hij : j = i
    · subst hij
      rw [if_pos rfl] at h
      by_cases hl : j < bx.length
      · rw [if_pos hl] at h; exact absurd rfl h
      · rw [List.getElem?_eq_none (by omega)]; simp
    · rw [if_neg hij] at h; exact h
  exact { hs with
    boxlen := by simpa using hs.boxlen
    boxF := fun i b c hi hl => hs.boxF i b c hi (ld hl)
    boxrep := fun i d y hd hy => by
      simp only [List.getElem?_set] at hy
      by_cases hij : j = i
      · subst hij
        rw [if_pos rfl] at hy
        split at hy
        · cases hy; cases d <;> exact trivial
        · cases hy
      · rw [if_neg hij] at hy
        exact hs.boxrep i d y hd hy
    boxinj := fun i i' b c c' hi hi' l l' => hs.boxinj i i' b c c' hi hi' (ld l) (ld l')
    tokbox := fun q b i c hq hi hl => hs.tokbox q b i c hq hi (ld hl) }

theorem kill_not {j : Nat} (hj : j < bx.length) : ¬ live (bx.set j .dead) j := fun h => h (by simp [hj])

/-- a box under another number -/
theorem Sim.rehome (hs : Sim mo n w0 F0 box0 g ⟨e, bx, f⟩ a w) {j : Nat} {d : BId} {x : ABox} (hd : g.box[j]? = some d) (hx : bx[j]? = some x) (hxd : x ≠ .dead) :
    Sim mo n w0 F0 box0 { g with box := g.box ++ [d] } ⟨e, bx.set j .dead ++ [x], f⟩ a w := by
  have S := hs.kill j
  have hbl := hs.boxlen
  simp only at hbl
  have hjl : j < bx.length := getElem?_lt hx
  have hlive : live bx j := fun h => by rw [hx] at h; exact hxd (Option.some.inj h)
  have hext : ∀ (j : Nat) d', g.box[j]? = some d' → (g.box ++ [d])[j]? = some d' := fun j d' h => by rw [List.getElem?_append_left (getElem?_lt h)]; exact h
  have L : Later w g.F g.tok f w g.F g.tok f := Later.refl _ _ _ _
  have hlen : (bx.set j .dead).length = bx.length := List.length_set
  have ldead : ∀ {i : Nat}, live (bx.set j .dead) i → live bx i ∧ i ≠ j := fun {i} h => by
    refine ⟨?_, fun hij => ?_⟩
    · unfold live at h ⊢
      rw [List.getElem?_set] at h
      by_cases hij : j = i
      · subst hij; rw [if_pos rfl, if_pos hjl] at h; exact absurd rfl h
      · rw [if_neg hij] at h; exact h
    · subst hij; exact kill_not hjl h
  have lv : ∀ {i : Nat}, i < bx.length → (live (bx.set j .dead ++ [x]) i ↔ live (bx.set j .dead) i) := fun h => live_append (by rw [hlen]; exact h)
  exact { S with
    env := S.env.later L hext
    boxlen := by simp [hbl]
    boxpre := fun j d h => hext j d (hs.boxpre j d h)
    boxin := fun i b c h => by
      rcases getElem?_append_one h with h | ⟨_, h⟩
      · exact hs.boxin i b c h
      · exact hs.boxin j b c (by rw [hd, h])
    boxF := fun i b c h hl => by
      rcases getElem?_append_one h with h | ⟨_, h⟩
      · exact S.boxF i b c h ((lv (by have := getElem?_lt h; omega)).1 hl)
      · exact hs.boxF j b c (by rw [hd, h]) hlive
    boxrep := fun i d' y h hy => by
      rcases getElem?_append_one h with h | ⟨hi, hdd⟩
      · have hil := getElem?_lt h
        have hy' : (bx.set j .dead)[i]? = some y := by
          rcases getElem?_append_one hy with hy | ⟨h1, _⟩
          · exact hy
          · omega
        exact (S.boxrep i d' y h hy').later L hext (fun _ _ _ _ => rfl)
      · rcases getElem?_append_one hy with hy | ⟨_, hyy⟩
        · have := getElem?_lt hy; omega
        · subst hyy; subst hdd
          exact (hs.boxrep j _ _ hd hx).later L hext (fun _ _ _ _ => rfl)
    boxinj := fun i k b c c' hi hk li lk => by
      rcases getElem?_append_one hi with h1 | ⟨h1, h2⟩ <;> rcases getElem?_append_one hk with h3 | ⟨h3, h4⟩
      · exact S.boxinj i k b c c' h1 h3 ((lv (by have := getElem?_lt h1; omega)).1 li) ((lv (by have := getElem?_lt h3; omega)).1 lk)
      · obtain ⟨l1, l2⟩ := ldead ((lv (by have := getElem?_lt h1; omega)).1 li)
        exact absurd (hs.boxinj i j b c c' h1 (by rw [hd, h4]) l1 hlive) l2
      · obtain ⟨l1, l2⟩ := ldead ((lv (by have := getElem?_lt h3; omega)).1 lk)
        exact absurd (hs.boxinj k j b c' c h3 (by rw [hd, h2]) l1 hlive) l2
      · omega
    tokbox := fun q b i c hq hi hl => by
      rcases getElem?_append_one hi with h1 | ⟨h1, h2⟩
      · exact S.tokbox q b i c hq h1 ((lv (by have := getElem?_lt h1; omega)).1 hl)
      · exact hs.tokbox q b j c hq (by rw [hd, h2]) hlive }

/-- a box that is nil -/
theorem Sim.nilBox (hs : Sim mo n w0 F0 box0 g ⟨e, bx, f⟩ a w) (k : RK) : Sim mo n w0 F0 box0 { g with box := g.box ++ [.nil] } ⟨e, bx ++ [.cells k []], f⟩ a w := by
  have hbl := hs.boxlen
  simp only at hbl
  have hext : ∀ (j : Nat) d', g.box[j]? = some d' → (g.box ++ [BId.nil])[j]? = some d' := fun j d' h => by rw [List.getElem?_append_left (getElem?_lt h)]; exact h
  have L : Later w g.F g.tok f w g.F g.tok f := Later.refl _ _ _ _
  have lv : ∀ {i : Nat}, i < bx.length → (live (bx ++ [.cells k []]) i ↔ live bx i) := fun h => live_append h
  have back : ∀ {i : Nat} {b c : Nat}, (g.box ++ [BId.nil])[i]? = some (.blk b c) → g.box[i]? = some (.blk b c) ∧ i < bx.length := fun {i b c} h => by
    rcases getElem?_append_one h with h | ⟨_, h⟩
    · exact ⟨h, by have := getElem?_lt h; omega⟩
    · cases h
  exact { hs with
    env := hs.env.later L hext
    boxlen := by simp [hbl]
    boxpre := fun j d h => hext j d (hs.boxpre j d h)
    boxin := fun i b c h => hs.boxin i b c (back h).1
    boxF := fun i b c h hl => hs.boxF i b c (back h).1 ((lv (back h).2).1 hl)
    boxrep := fun i d' y h hy => by
      rcases getElem?_append_one h with h | ⟨hi, hdd⟩
      · have hil := getElem?_lt h
        have hy' : bx[i]? = some y := by
          rcases getElem?_append_one hy with hy | ⟨h1, _⟩
          · exact hy
          · omega
        exact (hs.boxrep i d' y h hy').later L hext (fun _ _ _ _ => rfl)
      · rcases getElem?_append_one hy with hy | ⟨_, hyy⟩
        · have := getElem?_lt hy; omega
        · subst hyy; subst hdd; rfl
    boxinj := fun i k b c c' hi hk li lk => hs.boxinj i k b c c' (back hi).1 (back hk).1 ((lv (back hi).2).1 li) ((lv (back hk).2).1 lk)
    tokbox := fun q b i c hq hi hl => hs.tokbox q b i c hq (back hi).1 ((lv (back hi).2).1 hl) }

/-- what is appended -/
theorem elems_rep (hs : Sim mo n w0 F0 box0 g ⟨e, bx, f⟩ a w) {sz : Nat} {y : AV} {v : Value} {k : List AV → Nat → Prop} (h : elemsK bx sz y k) (hy : RepT w0.heap.size w g.F g.tok f g.box y v) (hpos : 0 < sz) :
    ∃ cs m ay capy news, k cs m ∧ v = .slice ay m capy ∧ cs.length = m * sz ∧ Both (Rep w0.heap.size w g.F g.tok f g.box) cs news ∧ (∀ u ∈ news, u.oneCell' = true) ∧
      (0 < m → ∃ ad : Addr, ay = some ad ∧ ∀ q u, news[q]? = some u → w.cell? (ad.add q) = some u) := by
  unfold elemsK at h
  split at h
  · rename_i j m
    split at h
    · rename_i t' sz' cs hj
      obtain ⟨rfl, hl, hk⟩ := h
      rcases hy.bsl_inv with ⟨b, cap, hb, hcap, rfl⟩ | ⟨hb, rfl, rfl⟩
      · obtain ⟨c, t, hh, hle, hr, rfl, hcs, hcm⟩ := hs.boxrep j _ _ hb hj
        refine ⟨cs, m, _, _, c.toList.take cs.length, hk, rfl, hl, ⟨by simp; omega, fun i x u hx hu => ?_⟩, fun u hu => ?_, fun _ => ⟨_, rfl, fun q u hu => ?_⟩⟩
        · have hi := getElem?_lt hx
          rw [List.getElem?_take, if_pos hi] at hu
          have e1 : c.getD i undef = u := by have : c[i]? = some u := by simpa using hu
                                             simp [Array.getD, (Array.getElem?_eq_some_iff.1 this).1, (Array.getElem?_eq_some_iff.1 this).2]
          rw [← e1]; exact (hr i x hx).1
        · obtain ⟨i, hu⟩ := List.getElem?_of_mem hu
          have hi : i < cs.length := by have := getElem?_lt hu; simp at this; omega
          rw [List.getElem?_take, if_pos hi] at hu
          have e1 : c.getD i undef = u := by have : c[i]? = some u := by simpa using hu
                                             simp [Array.getD, (Array.getElem?_eq_some_iff.1 this).1, (Array.getElem?_eq_some_iff.1 this).2]
          rw [← e1]; exact (hr i _ (List.getElem?_eq_getElem hi)).2
        · have hi : q < cs.length := by have := getElem?_lt hu; simp at this; omega
          rw [List.getElem?_take, if_pos hi] at hu
          rw [Addr.add_lit, Nat.zero_add, cell_of_row w b q c _ (0, 0) hh]; simpa using hu
      · have h0 : cs = [] := hs.boxrep j _ _ hb hj
        subst h0
        exact ⟨[], 0, _, _, [], hk, rfl, hl, ⟨rfl, by simp⟩, by simp, fun h => absurd h (by omega)⟩
    · exact h.no
  · rename_i o ys
    obtain ⟨hsz, hk⟩ := h
    have hr' := hy.list_inv
    cases hr' with
    | list _ _ ad cap sz' b off vs hcap ha hszx hF hc hr ho =>
    by_cases hy0 : ys = []
    · subst hy0
      exact ⟨[], 0, _, _, [], hk, rfl, by simp, ⟨rfl, by simp⟩, by simp, fun h => absurd h (by omega)⟩
    have hszy' : sz' = sz := by
      cases ys with
      | nil => exact absurd rfl hy0
      | cons c r => rw [← hszx c (by simp), hsz c (by simp)]
    subst hszy'
    have hnl : (rowOf sz' ys.length vs).length = ys.length * sz' := by simp [rowOf]
    have hgety : ∀ i j, i < ys.length → j < sz' → ∃ e c, ys[i]? = some e ∧ e[j]? = some c := fun i j hi hj => by
      have h1 : (ys[i]'hi).length = sz' := hsz _ (List.getElem_mem hi)
      exact ⟨ys[i], ys[i][j]'(by omega), by simp, by simp⟩
    have hnget : ∀ q u, (rowOf sz' ys.length vs)[q]? = some u → ∃ i j, i < ys.length ∧ j < sz' ∧ q = i * sz' + j ∧ u = vs i j := fun q u hq => by
      have hlt := getElem?_lt hq
      rw [hnl] at hlt
      have h1 : q % sz' < sz' := Nat.mod_lt _ hpos
      have h2 : q / sz' < ys.length := (Nat.div_lt_iff_lt_mul hpos).2 hlt
      have h3 : q = q / sz' * sz' + q % sz' := by rw [Nat.mul_comm]; exact (Nat.div_add_mod _ _).symm
      refine ⟨q / sz', q % sz', h2, h1, h3, ?_⟩
      have h4 := rowOf_get (vs := vs) h2 h1
      rw [← h3, hq] at h4
      exact Option.some.inj h4
    refine ⟨ys.flatten, ys.length, ad, cap, rowOf sz' ys.length vs, hk, rfl, length_flatten' sz' ys hsz, ⟨by rw [hnl, length_flatten' sz' ys hsz], fun q x u hx hu => ?_⟩, fun u hu => ?_, fun _ => ⟨_, ha hy0, fun q u hu => ?_⟩⟩
    · obtain ⟨i, j, h1, h2, rfl, rfl⟩ := hnget q u hu
      obtain ⟨e', c', he, hc'⟩ := hgety i j h1 h2
      rw [flatten_get sz' ys i j e' c' hsz he hc'] at hx
      rw [← Option.some.inj hx]
      exact (hr i e' j c' he hc').later (Later.refl _ _ _ _) (by simp)
    · obtain ⟨q, hq⟩ := List.getElem?_of_mem hu
      obtain ⟨i, j, h1, h2, rfl, rfl⟩ := hnget q u hq
      obtain ⟨e', c', he, hc'⟩ := hgety i j h1 h2
      exact (hc i e' j c' he hc').2
    · obtain ⟨i, j, h1, h2, rfl, rfl⟩ := hnget q u hu
      obtain ⟨e', c', he, hc'⟩ := hgety i j h1 h2
      rw [Addr.add_lit, ← Nat.add_assoc]
      exact (hc i e' j c' he hc').1
  · rw [hy.val_inv]
    exact ⟨[], 0, _, _, [], h, rfl, by simp, ⟨rfl, by simp⟩, by simp, fun h => absurd h (by omega)⟩
  · exact h.no

/-- appending to a row that is a box -/
theorem append_box (hs : Sim mo n w0 F0 box0 g ⟨e, bx, f⟩ a w) {T ty el : TypeId} {ti : TypeInfo} {z : Value} (ht : P.underlying T = some (.slice el)) (hi : P.info? el = some ti) (hz : ti.zero = some z) (hzs : z.cells.size = ti.size) (hpos : 0 < ti.size)
    {j m : Nat} {xs : List AV} {v : Value} (hx : Rep w0.heap.size w g.F g.tok f g.box (.bsl j m) v) (hj : bx[j]? = some (.cells (.row el ti.size) xs)) (hxl : xs.length = m * ti.size)
    {cs : List AV} {q capy : Nat} {ay : Option Addr} {news : List Value} (hcl : cs.length = q * ti.size) (hB : Both (Rep w0.heap.size w g.F g.tok f g.box) cs news) (h1 : ∀ u ∈ news, u.oneCell' = true)
    (hc : 0 < q → ∃ ad : Addr, ay = some ad ∧ ∀ q u, news[q]? = some u → w.cell? (ad.add q) = some u) (h40 : m + q ≤ 1099511627776) (hbytes : (m + q) * ti.bytes ≤ 140737488355328) :
    ∃ v' w' g', (Builtin.append_ #[T, T] ty #[v, .slice ay q capy]).run P w = .ok v' w' ∧
      Sim mo n w0 F0 box0 g' ⟨e, bx.set j .dead ++ [.cells (.row el ti.size) (xs ++ cs)], f⟩ a w' ∧ Rep w0.heap.size w' g'.F g'.tok f g'.box (.bsl bx.length (m + q)) v' := by
  have hbl := hs.boxlen
  simp only at hbl
  have hnl : news.length = q * ti.size := by rw [← hB.1, hcl]
  have hlive : live bx j := fun h => by rw [hj] at h; cases h
  have hjl := getElem?_lt hj
  -- growing into a new block
  have grow : ∀ {vals : List Value} {rest : List Value} {cap' : Nat} {v : Value}, Both (Rep w0.heap.size w g.F g.tok f g.box) xs vals → (∀ u ∈ vals, u.oneCell' = true) →
      (Builtin.append_ #[T, T] ty #[v, .slice ay q capy]).run P w = .ok (.slice (some ⟨w.heap.size, 0, none⟩) (m + q) cap') (w.drew.alloc (.cells (vals ++ news ++ rest).toArray el)) → m + q ≤ cap' → cap' ≤ maxLen → (vals ++ news ++ rest).length = cap' * ti.size →
      ∃ v' w' g', (Builtin.append_ #[T, T] ty #[v, .slice ay q capy]).run P w = .ok v' w' ∧
        Sim mo n w0 F0 box0 g' ⟨e, bx.set j .dead ++ [.cells (.row el ti.size) (xs ++ cs)], f⟩ a w' ∧ Rep w0.heap.size w' g'.F g'.tok f g'.box (.bsl bx.length (m + q)) v' := by
    intro vals rest cap' v hBv hv1 hr hc1 hc2 hc3
    have hs1 := (hs.world (w' := w.drew) (Bel.refl _ _).drew).kill j
    have L0 := later_alloc hs1 (.cells (vals ++ news ++ rest).toArray el)
    have hext : ∀ (j : Nat) d, g.box[j]? = some d → (g.box ++ [BId.blk w.drew.heap.size cap'])[j]? = some d := fun j d h => by rw [List.getElem?_append_left (getElem?_lt h)]; exact h
    have hBB := both_append hBv hB
    have L1 : Later w g.F g.tok f w.drew g.F g.tok f := later_below hs (Bel.refl (mo := mo) _ _).drew
    have S := hs1.newBox (.cells (vals ++ news ++ rest).toArray el) cap' (.cells (.row el ti.size) (xs ++ cs))
      (boxOk_row (heap_alloc_new w.drew _) rfl ⟨hBB.1, fun i x u hx hu => ((hBB.2 i x u hx hu).later L1 (fun _ _ h => h)).later L0 hext⟩ (fun u hu => by
        rcases List.mem_append.1 hu with h | h
        · exact hv1 u h
        · exact h1 u h) hc3 hc2)
    exact ⟨_, _, _, hr, S, .bsl _ _ w.heap.size cap' (by simp only [← hbl]; simp) hc1⟩
  rcases hx.bsl_inv with ⟨b, cap, hb, hcap, rfl⟩ | ⟨hb, rfl, rfl⟩
  · obtain ⟨c, t, hh, hle, hr, rfl, hcs, hcm⟩ := hs.boxrep j _ _ hb hj
    have hvl : (c.toList.take (m * ti.size)).length = m * ti.size := by simp; omega
    have hget : ∀ i, i < xs.length → (c.toList.take (m * ti.size))[i]? = some (c.getD i undef) := fun i hi => by
      have : i < c.size := by omega
      rw [List.getElem?_take, if_pos (by omega)]; simp [Array.getD, this]
    have hBv : Both (Rep w0.heap.size w g.F g.tok f g.box) xs (c.toList.take (m * ti.size)) := ⟨by rw [hvl, hxl], fun i x u hx hu => by
      rw [hget i (getElem?_lt hx)] at hu; cases hu; exact (hr i x hx).1⟩
    have hv1 : ∀ u ∈ c.toList.take (m * ti.size), u.oneCell' = true := fun u hu => by
      obtain ⟨i, hu⟩ := List.getElem?_of_mem hu
      have hi : i < xs.length := by have := getElem?_lt hu; rw [hvl] at this; omega
      rw [hget i hi] at hu; cases hu
      exact (hr i _ (List.getElem?_eq_getElem hi)).2
    by_cases hq : q = 0
    · subst hq
      have h0 : cs = [] := List.eq_nil_of_length_eq_zero (by simpa using hcl)
      subst h0
      refine ⟨_, w, _, append_none w ht hi hcap, by rw [List.append_nil]; exact hs.rehome hb hj (by simp), .bsl _ _ b cap (by simp only [← hbl]; simp) hcap⟩
    · obtain ⟨ad, rfl, had⟩ := hc (by omega)
      rcases append_run (P := P) (ty := ty) (c := capy) (B := 0) w ht hi hz hzs (vals := c.toList.take (m * ti.size)) (n := m) (cap := cap) (ad := some ⟨b, 0, none⟩) ⟨hvl, Or.inr ⟨b, cap, c, rfl, Nat.zero_le _, hh, hcap, hcm, hcs, rfl⟩⟩ hnl had h1 (by omega) h40 hbytes with ⟨gb, cur, he, hg, htake, hroom, _, hcs', hrun⟩ | ⟨cap', rest, hrun, hc1, hc2, hc3⟩
      · cases he
        rw [hh] at hg; cases hg
        have hlen : (c.toList.take (m * ti.size) ++ news ++ c.toList.drop (m * ti.size + news.length)).length = cap * ti.size := by
          have : (m + q) * ti.size ≤ cap * ti.size := Nat.mul_le_mul_right _ hroom
          rw [Nat.add_mul] at this
          simp only [List.length_append, hvl, hnl, List.length_drop, Array.length_toList]
          omega
        have hset := setRow_heap w b c (c.toList.take (m * ti.size) ++ news ++ c.toList.drop (m * ti.size + news.length)).toArray _ (0, 0) hh
        have hBB := both_append hBv hB
        have S := hs.turnBox hb hlive (w' := w.setRow b (c.toList.take (m * ti.size) ++ news ++ c.toList.drop (m * ti.size + news.length)).toArray) (x := .cells (.row _ ti.size) (xs ++ cs)) (hxd := by simp)
          ⟨Nat.le_refl _, rfl, rfl, rfl, by simp, fun k hk => setRow_other w b k _ hk⟩
          (fun keep => boxOk_row hset rfl ⟨hBB.1, fun i x u hx hu => keep x u (hBB.2 i x u hx hu)⟩ (fun u hu => by
            rcases List.mem_append.1 hu with h | h
            · exact hv1 u h
            · exact h1 u h) hlen hcm)
        have S' := S.rehome (d := .blk b cap) hb (by rw [List.getElem?_set, if_pos rfl, if_pos hjl]) (by simp)
        rw [List.set_set] at S'
        exact ⟨_, _, _, hrun, S', .bsl _ _ b cap (by show (g.box ++ [BId.blk b cap])[bx.length]? = _; rw [← hbl]; simp) hroom⟩
      · exact grow hBv hv1 hrun hc1 hc2 hc3
  · have h0 : xs = [] := hs.boxrep j _ _ hb hj
    subst h0
    by_cases hq : q = 0
    · subst hq
      have h0 : cs = [] := List.eq_nil_of_length_eq_zero (by simpa using hcl)
      subst h0
      exact ⟨_, w, _, append_none w ht hi (Nat.le_refl _), hs.rehome hb hj (by simp), .bnil _ (by simp only [← hbl]; simp)⟩
    · obtain ⟨ad, rfl, had⟩ := hc (by omega)
      rcases append_run (P := P) (ty := ty) (c := capy) (B := 0) w ht hi hz hzs (vals := []) (n := 0) (cap := 0) (ad := none) (World.ownsRow_nil w _ el ti.size) hnl had h1 (by omega) h40 hbytes with ⟨gb, cur, he, _⟩ | ⟨cap', rest, hrun, hc1, hc2, hc3⟩
      · cases he
      · exact grow ⟨rfl, by simp⟩ (by simp) hrun hc1 hc2 hc3

theorem leads_append (hs : Sim mo n w0 F0 box0 g ⟨e, bx, f⟩ a w) {t : TypeId} {x y : Operand} {k : AV → List ABox → Fr → Prop} (ho : o.op = .call { callee := .builtin .append, args := #[x, y], argTypes := #[t, t] })
    (hg : goodElem P t = true)
    (h : evG true e x fun x => evG true e y fun y => appK (elemTy P t) (P.cellsOf (elemTy P t)) (bytesOf P (elemTy P t)) x y bx f k) : Leads mo P n w0 F0 box0 e a o w k := by
  obtain ⟨el, ti, z, hu, hi, hz, hzs, hpos, h64, hel, hcz⟩ := goodElem_inv hg
  have hby : bytesOf P el = ti.bytes := by simp [bytesOf, hi]
  rw [hel, hcz, hby] at h
  obtain ⟨xv, h1, hxv⟩ := evG_sound hs.env h
  clear h
  obtain ⟨yv, h2, hyv⟩ := evG_sound hs.env h1
  clear h1
  have run : ∀ {v u v' : Value} {w' : World}, a.eval x = v → a.eval y = u → (Builtin.append_ #[t, t] o.type #[v, u]).run P w = .ok v' w' → (execOp a.eval o).run P w = .ok (.value v') w' := fun {v u v' w'} hv hy hr => by
    simp only [execOp, ho, resolve, invoke, builtin, Sem.run_bind, Sem.run_pure, Result.andThen_ok, List.map_toArray, List.map_cons, List.map_nil, hv, hy, hr]
  -- nil, and what is appended is a list
  have nilList : ∀ {o' : Option Nat} {ys : List (List AV)}, xv = .val (.slice none 0 0) → gList yv (fun ys' => ys' = ys) → (∀ c ∈ ys, c.length = ti.size) → ys.length * ti.bytes ≤ 140737488355328 → ys.length ≤ 1099511627776 →
      k (.list (some f.length) ys) bx (f ++ [(el, ti.size, ys.length)]) → Leads mo P n w0 F0 box0 e a o w k := by
    intro o' ys hx0 hy0 hsz hb h40 hk
    subst hx0
    obtain ⟨ys', ay, capy, szy, by', offy, vsy, h3, hy, hcapy, hay, hszy, hFy, hcy, hry⟩ := gList_rep hy0 hyv
    subst h3
    have S0 := hs.nilTok (el, ti.size, 0)
    have hlen := hs.toklen
    simp only at hlen
    have hx0 : Rep w0.heap.size w g.F (g.tok ++ [none]) (f ++ [(el, ti.size, 0)]) g.box (.list (some f.length) []) (.slice none 0 0) :=
      .list (some f.length) [] none 0 ti.size 0 0 (fun _ _ => undef) (Nat.le_refl _) (fun h => absurd rfl h) (by simp) (fun h => absurd rfl h) (by simp) (by simp) (fun k hk => by
        cases hk
        exact ⟨el, ti.size, 0, by simp, Nat.le_refl _, fun _ => ⟨rfl, ⟨[], World.ownsRow_nil w _ el ti.size⟩, by rw [← hlen]; simp, by simp⟩⟩)
    have L : Later w g.F g.tok f w g.F (g.tok ++ [none]) (f ++ [(el, ti.size, 0)]) := by
      refine ⟨fun _ _ _ => rfl, fun _ => Nat.le_refl _, fun k t s n hk => ?_⟩
      have hlt := getElem?_lt hk
      exact ⟨n, by rw [List.getElem?_append_left hlt]; exact hk, Nat.le_refl _, fun _ => ⟨by rw [List.getElem?_append_left (by omega)], fun b hb => ⟨rfl, rfl⟩⟩⟩
    obtain ⟨v', w', g', hr, hbox, S, hrep⟩ := append_list (ty := o.type) (j := f.length) (xs := []) (ys := ys') S0 hu hi hz hzs hpos hx0 (by simp) hay hszy hcy (fun i e j c hi hj => (hry i e j c hi hj).later L (by simp)) hsz (by simpa using h40) (by simpa using hb)
    have e1 : (f ++ [(el, ti.size, 0)]).set f.length (el, ti.size, ([] : List (List AV)).length + ys'.length) = f ++ [(el, ti.size, ys'.length)] := by simp
    rw [e1] at S hrep
    exact leads_val (run hxv.val_inv hy hr) S (.rep _ _ hrep) hk
  unfold appK at h2
  split at h2
  · rename_i j xs
    obtain ⟨ys, ay, capy, szy, by', offy, vsy, h3, hy, hcapy, hay, hszy, hFy, hcy, hry⟩ := gList_rep h2 hyv
    split at h3
    case h_2 => exact h3.no
    rename_i t' sz' m hj
    obtain ⟨rfl, rfl, rfl, hsz, ⟨hb, h40⟩, hk⟩ := h3
    obtain ⟨v', w', g', hr, hbox, S, hrep⟩ := append_list (ty := o.type) hs hu hi hz hzs hpos hxv.list_inv hj hay hszy hcy hry hsz h40 hb
    exact leads_val (run rfl hy hr) S (.rep _ _ hrep) hk
  · split at h2
    · rename_i j m
      obtain ⟨cs, q, ay, capy, news, ⟨⟨hb, h40⟩, hk⟩, hv, hcl, hB, h1, hc⟩ := elems_rep hs h2 hyv hpos
      have S0 := hs.nilBox (.row el ti.size)
      have hbl := hs.boxlen
      simp only at hbl
      have hext : ∀ (j : Nat) d', g.box[j]? = some d' → (g.box ++ [BId.nil])[j]? = some d' := fun j d' h => by rw [List.getElem?_append_left (getElem?_lt h)]; exact h
      obtain ⟨v', w', g', hr, S, hrep⟩ := append_box (ty := o.type) (v := .slice none 0 0) S0 hu hi hz hzs hpos (j := bx.length) (m := 0) (xs := []) (.bnil _ (by simp only [← hbl]; simp)) (by simp) (by simp) (capy := capy) hcl
        ⟨hB.1, fun i x u hx hu => (hB.2 i x u hx hu).later (Later.refl _ _ _ _) hext⟩ h1 hc (by omega) (by rw [Nat.zero_add]; exact hb)
      have e1 : (bx ++ [ABox.cells (.row el ti.size) []]).set bx.length .dead ++ [.cells (.row el ti.size) ([] ++ cs)] = bx ++ [.dead, .cells (.row el ti.size) cs] := by simp
      rw [e1] at S
      rw [Nat.zero_add, List.length_append, List.length_singleton] at hrep
      exact leads_val (run hxv.val_inv hv hr) S (.rep _ _ hrep) hk
    · rename_i o' ys
      obtain ⟨hsz, ⟨hb, h40⟩, hk⟩ := h2
      exact nilList (o' := o') rfl rfl hsz hb h40 hk
    · exact nilList (o' := none) (ys := []) rfl rfl (by simp) (by simp) (by simp) h2
    · exact h2.no
  · rename_i j m
    split at h2
    · rename_i t' sz' xs hj
      obtain ⟨rfl, rfl, hxl, h2⟩ := h2
      obtain ⟨cs, q, ay, capy, news, ⟨⟨hb, h40⟩, hk⟩, hv, hcl, hB, h1, hc⟩ := elems_rep hs h2 hyv hpos
      obtain ⟨v', w', g', hr, S, hrep⟩ := append_box (ty := o.type) hs hu hi hz hzs hpos (hxv.plain (by simp)) hj hxl (capy := capy) hcl hB h1 hc h40 hb
      exact leads_val (run rfl hv hr) S (.rep _ _ hrep) hk
    · exact h2.no
  · exact h2.no
end
end Abs
end Go.Proofs.Ytamcaplpgmloiaa
