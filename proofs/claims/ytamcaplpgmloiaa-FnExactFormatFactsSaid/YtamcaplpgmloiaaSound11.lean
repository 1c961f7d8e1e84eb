/-
  Slices that the call makes, appends, calls; each operation of the evaluator.
-/
import Derived.Test.YtamcaplpgmloiaaSound10
namespace Go.Proofs.Ytamcaplpgmloiaa
namespace Abs
open Go.RowKit

section
variable {P : Program} {n : Nat} {w0 : World} {F0 : Nat → Nat} {box0 : List BId} {g : G} {e : Env} {bx : List ABox} {f : Fr} {a : Act} {w : World} {o : Oper}

/-- a new block that is read from now on, of no token -/
theorem Sim.newRead (hs : Sim n w0 F0 box0 g ⟨e, bx, f⟩ a w) (o : Obj) (m : Nat) :
    Sim n w0 F0 box0 { F := setF g.F w.heap.size m, tok := g.tok, box := g.box } ⟨e, bx, f⟩ a (w.alloc o) := by
  have hb : Below w.heap.size w (w.alloc o) := (Below.refl _ _).alloc (Nat.le_refl _) o
  have h0 := hs.out w.heap.size (Nat.le_refl _)
  have L0 := later_alloc hs o
  have hsz : (w.alloc o).heap.size = w.heap.size + 1 := by simp
  have L : Later w g.F g.tok f (w.alloc o) (setF g.F w.heap.size m) g.tok f := by
    refine ⟨L0.cell, fun b => ?_, fun k t s n hk => ⟨n, hk, Nat.le_refl _, fun _ => ⟨rfl, fun b hb => ?_⟩⟩⟩
    · unfold setF; split
      · rename_i h; rw [h, h0]; exact Nat.zero_le _
      · exact Nat.le_refl _
    · have h1 := (hs.tokin k b hb).2
      exact ⟨Below.heap_alloc _ _ _ h1, by unfold setF; rw [if_neg (by omega)]⟩
  exact {
    defers := hs.defers, size := hs.size
    env := hs.env.later L (fun _ _ h => h)
    below := hs.below.trans hb
    old := fun b h => by have := hs.below.size; simp only [setF]; rw [if_neg (by omega)]; exact hs.old b h
    out := fun b h => by simp only [setF]; rw [if_neg (by omega)]; exact hs.out b (by omega)
    boxlen := hs.boxlen
    boxpre := hs.boxpre
    boxin := fun j b c h => by have := hs.boxin j b c h; exact ⟨this.1, by omega⟩
    boxF := fun j b c h hl => by
      have := (hs.boxin j b c h).2
      simp only [setF]; rw [if_neg (by omega)]; exact hs.boxF j b c h hl
    boxrep := hs.boxrep.later L (fun j b c h _ => hb.block b (hs.boxin j b c h).2)
    boxinj := hs.boxinj
    toklen := hs.toklen
    tokin := fun k b h => by have := hs.tokin k b h; exact ⟨this.1, by omega⟩
    tokbox := hs.tokbox
    tokinj := hs.tokinj }

/-- a row of cells that a call has just made reads as a list -/
theorem rep_row {B : Nat} {w' : World} {F' : Nat → Nat} {tok' : List (Option Nat)} {fr' : Fr} {bo : List BId} {o' : Option Nat} {cs : List (List AV)} {vss : List (List Value)} {b sz el : Nat}
    (hc : ∀ c ∈ cs, c.length = sz) (hB : Both (Both (CellR B w' F' tok' fr' [])) cs vss) (hh : w'.heap[b]? = some (.cells vss.flatten.toArray el (0, 0))) (hF : F' b = cs.length * sz)
    (ho : ∀ k, o' = some k → fr'[k]? = some (el, sz, cs.length) ∧ tok'[k]? = some (some b) ∧ B ≤ b) (h64 : cs.length ≤ 64) :
    Rep B w' F' tok' fr' bo (.list o' cs) (.slice (some ⟨b, 0, none⟩) cs.length cs.length) := by
  have hv : ∀ v ∈ vss, v.length = sz := fun v hv => by
    obtain ⟨i, hi⟩ := List.getElem?_of_mem hv
    obtain ⟨c, hci⟩ : ∃ c, cs[i]? = some c := ⟨_, List.getElem?_eq_getElem (by rw [hB.1]; exact getElem?_lt hi)⟩
    rw [← (hB.2 i c v hci hi).1, hc c (List.mem_of_getElem? hci)]
  have hfl := length_flatten' sz vss hv
  have hcell : ∀ q, w'.cell? ⟨b, q, none⟩ = vss.flatten[q]? := fun q => by simp [World.cell?, hh]
  have get : ∀ i e j c, cs[i]? = some e → e[j]? = some c → ∃ v u, vss[i]? = some v ∧ v[j]? = some u ∧ CellR B w' F' tok' fr' [] c u := fun i e j c hi hj => by
    obtain ⟨v, hv⟩ : ∃ v, vss[i]? = some v := ⟨_, List.getElem?_eq_getElem (by rw [← hB.1]; exact getElem?_lt hi)⟩
    have h1 := hB.2 i e v hi hv
    obtain ⟨u, hu⟩ : ∃ u, v[j]? = some u := ⟨_, List.getElem?_eq_getElem (by rw [← h1.1]; exact getElem?_lt hj)⟩
    exact ⟨v, u, hv, hu, h1.2 j c u hj hu⟩
  refine .list o' cs _ _ sz b 0 (fun i j => ((vss.getD i []).getD j undef)) (Nat.le_refl _) (fun _ => rfl) hc (fun _ => by rw [hF]; omega) (fun i e j c hi hj => ?_) (fun i e j c hi hj => ?_) (fun k hk => ?_)
  · obtain ⟨v, u, hv', hu, hcr⟩ := get i e j c hi hj
    have e1 : (vss.getD i []).getD j undef = u := by simp [List.getD, hv', hu]
    rw [e1, Nat.zero_add, hcell, flatten_get sz vss i j v u hv hv' hu]
    exact ⟨rfl, hcr.2⟩
  · obtain ⟨v, u, hv', hu, hcr⟩ := get i e j c hi hj
    have e1 : (vss.getD i []).getD j undef = u := by simp [List.getD, hv', hu]
    rw [e1]; exact hcr.1
  · obtain ⟨h1, h2, h3⟩ := ho k hk
    refine ⟨el, sz, cs.length, h1, Nat.le_refl _, fun _ => ⟨rfl, ⟨vss.flatten, by rw [hfl, hB.1], Or.inr ⟨b, cs.length, _, rfl, h3, hh, Nat.le_refl _, by unfold maxLen; omega, by simp [hfl, hB.1], ?_⟩⟩, h2, fun b' hb' => by cases hb'; exact hF⟩⟩
    rw [hB.1, ← hfl]; exact List.take_length

theorem leads_bslice (hs : Sim n w0 F0 box0 g ⟨e, bx, f⟩ a w) {t : TypeId} {m : Nat} {ps : Array (Nat × Operand)} {own : Bool} {k : AV → List ABox → Fr → Prop} (ho : o.op = .buildSlice t m ps)
    (hg : goodElem P t = true) (hm : m ≤ 64) (hix : ps.toList.map (·.1) = List.range m)
    (h : evs true e (ps.toList.map (·.2)) fun vs => cellsKs vs fun cs => Need (cs.all (fun c => c.length == P.cellsOf (elemTy P t) && c.all noRef) = true)
      (match own with
        | true => k (.list (some f.length) cs) bx (f ++ [(elemTy P t, P.cellsOf (elemTy P t), cs.length)])
        | false => k (.list none cs) bx f)) : Leads P n w0 F0 box0 e a o w k := by
  obtain ⟨el, ti, z, hu, hi, hz, hzs, hpos, h64, hel, hcz⟩ := goodElem_inv hg
  rw [hel, hcz] at h
  obtain ⟨vs, h1, hvs⟩ := evs_sound hs.env h
  clear h
  obtain ⟨cs, h2, hcs⟩ := cellsKs_sound h1 hvs
  clear h1
  obtain ⟨hsz, hk⟩ := h2
  have hsz' : ∀ c ∈ cs, c.length = ti.size := fun c hc => by have := List.all_eq_true.1 hsz c hc; simp only [Bool.and_eq_true, beq_iff_eq] at this; exact this.1
  have hnr : ∀ c ∈ cs, ∀ x ∈ c, noRef x = true := fun c hc x hx => by have := List.all_eq_true.1 hsz c hc; simp only [Bool.and_eq_true] at this; exact List.all_eq_true.1 this.2 x hx
  have e1 : ((ps.toList.map (·.2)).map a.eval).map (fun v => v.cells.toList) = (ps.toList.map fun p => (p.1, a.eval p.2)).map fun p => p.2.cells.toList := by simp [List.map_map, Function.comp_def]
  rw [e1] at hcs
  have hlm : ps.toList.length = m := by have := congrArg List.length hix; simpa using this
  have hlc : cs.length = m := by rw [hcs.1]; simp [hlm]
  have hv : ∀ v ∈ (ps.toList.map fun p => (p.1, a.eval p.2)).map fun p => p.2.cells.toList, v.length = ti.size := fun v hv => by
    obtain ⟨i, hi'⟩ := List.getElem?_of_mem hv
    obtain ⟨c, hci⟩ : ∃ c, cs[i]? = some c := ⟨_, List.getElem?_eq_getElem (by rw [hcs.1]; exact getElem?_lt hi')⟩
    rw [← (hcs.2 i c v hci hi').1, hsz' c (List.mem_of_getElem? hci)]
  -- the run
  have hrun : (execOp a.eval o).run P w = .ok (.value (.slice (some ⟨w.heap.size, 0, none⟩) m m)) (w.alloc (.cells (((ps.toList.map fun p => (p.1, a.eval p.2)).map fun p => p.2.cells.toList).flatten).toArray el)) := by
    have key : ∀ (init : Array Value), init.size = m * ti.size → ∃ cells', Instr.fill (fun i => some (i * ti.size, ti.size)) init (ps.toList.map fun p => (p.1, a.eval p.2)) = some cells' ∧
        cells'.toList = ((ps.toList.map fun p => (p.1, a.eval p.2)).map fun p => p.2.cells.toList).flatten := by
      intro init hinit
      obtain ⟨cells', h1, h2⟩ := fill_run (fun i => some (i * ti.size, ti.size)) (ps.toList.map fun p => (p.1, a.eval p.2)) init ((List.range m).map fun i => (i * ti.size, ti.size))
        (by rw [← hix]; simp [List.map_map, Function.comp_def])
        (by
          have e2 : (ps.toList.map fun p => (p.1, a.eval p.2)).map (fun p => p.2.cells.size) = ((ps.toList.map fun p => (p.1, a.eval p.2)).map fun p => p.2.cells.toList).map List.length := by simp [List.map_map, Function.comp_def]
          have e3 : ((List.range m).map fun i => (i * ti.size, ti.size)).map (·.2) = List.replicate m ti.size := by
            apply List.ext_getElem?
            intro i
            simp only [List.map_map, List.getElem?_map, List.getElem?_replicate]
            rcases Nat.lt_or_ge i m with h | h <;> simp [h]
          have e4 : ((ps.toList.map fun p => (p.1, a.eval p.2)).map fun p => p.2.cells.toList).map List.length = List.replicate m ti.size := by
            rw [List.eq_replicate_iff]
            refine ⟨by simp [hlm], fun b hb => ?_⟩
            obtain ⟨v, hv', rfl⟩ := List.mem_map.1 hb
            exact hv v hv'
          rw [e2, e3, e4])
        (fun q hq => by
          obtain ⟨i, hi', rfl⟩ := List.mem_map.1 hq
          have : (i + 1) * ti.size ≤ m * ti.size := Nat.mul_le_mul_right _ (List.mem_range.1 hi')
          rw [Nat.add_mul] at this
          simp only; omega)
      refine ⟨cells', h1, ?_⟩
      have h3 := fillAt_flatten ti.size ((ps.toList.map fun p => (p.1, a.eval p.2)).map fun p => p.2.cells.toList) 0 [] init.toList hv (by simp) (by simp [hinit, hlm])
      rw [h2]
      simp only [List.nil_append, List.length_map, hlm] at h3
      rw [← h3, List.range_eq_range', List.map_map]
      rfl
    obtain ⟨cells', hf, hc'⟩ := key ((Array.range (m * ti.size)).map ((if m * ti.size = 0 then #[] else z.cells)[· % (if m * ti.size = 0 then #[] else z.cells).size]!)) (by simp)
    have hc'' : cells' = (((ps.toList.map fun p => (p.1, a.eval p.2)).map fun p => p.2.cells.toList).flatten).toArray := by apply Array.ext'; simpa using hc'
    have h24 : ¬ (16777216 < m * ti.size) := by have := Nat.mul_le_mul hm h64; omega
    have hf' : Instr.fill (fun i => some (i * ti.size, ti.size)) ((Array.range (m * ti.size)).map ((if m * ti.size = 0 then #[] else z.cells)[· % (if m * ti.size = 0 then #[] else z.cells).size]!)) (ps.map fun (i, x) => (i, a.eval x)).toList = some cells' := by simpa using hf
    by_cases hm0 : m * ti.size = 0
    · simp only [hm0, if_true] at hf'
      simp only [execOp, ho, Instr.buildSlice, Sem.run_bind, run_underlying hu, Result.andThen_ok, sizeOf, typeInfo, run_program, hi, Sem.run_pure, hm0, if_true, Sem.run_ite, show ¬ ((0 : Nat) > 2 ^ 24) by decide, if_false, hf', newRow, run_newObj, World.alloc_eq, hc'']
    · simp only [hm0, if_false] at hf'
      simp only [execOp, ho, Instr.buildSlice, Sem.run_bind, run_underlying hu, Result.andThen_ok, sizeOf, typeInfo, run_program, hi, Sem.run_pure, hm0, Sem.run_ite, show ¬ (m * ti.size > 2 ^ 24) from h24, if_false, zeroValue, hz, hf', newRow, run_newObj, World.alloc_eq, hc'']
  rw [← hlc] at hrun
  cases own with
  | true =>
    have S := hs.newTok (.cells (((ps.toList.map fun p => (p.1, a.eval p.2)).map fun p => p.2.cells.toList).flatten).toArray el) (cs.length * ti.size) (el, ti.size, cs.length)
    have L := later_tok hs (.cells (((ps.toList.map fun p => (p.1, a.eval p.2)).map fun p => p.2.cells.toList).flatten).toArray el) (cs.length * ti.size) (some w.heap.size) (el, ti.size, cs.length)
    refine leads_val hrun S (.rep _ _ (rep_row hsz' ⟨hcs.1, fun i c v hc hv' => ⟨(hcs.2 i c v hc hv').1, fun j x u hx hu' => ⟨(((hcs.2 i c v hc hv').2 j x u hx hu').1.anyBox [] (hnr c (List.mem_of_getElem? hc) x (List.mem_of_getElem? hx))).later L (by simp), ((hcs.2 i c v hc hv').2 j x u hx hu').2⟩⟩⟩ (heap_alloc_new w _) (by simp [setF]) (fun k hk => ?_) (by omega))) hk
    cases hk
    refine ⟨by simp, ?_, hs.below.size⟩
    have := hs.toklen
    simp only at this
    rw [← this]; simp
  | false =>
    have S := hs.newRead (.cells (((ps.toList.map fun p => (p.1, a.eval p.2)).map fun p => p.2.cells.toList).flatten).toArray el) (cs.length * ti.size)
    have L0 := later_alloc hs (.cells (((ps.toList.map fun p => (p.1, a.eval p.2)).map fun p => p.2.cells.toList).flatten).toArray el)
    have h0 := hs.out w.heap.size (Nat.le_refl _)
    have L : Later w g.F g.tok f (w.alloc (.cells (((ps.toList.map fun p => (p.1, a.eval p.2)).map fun p => p.2.cells.toList).flatten).toArray el)) (setF g.F w.heap.size (cs.length * ti.size)) g.tok f := by
      refine ⟨L0.cell, fun b => ?_, fun k t s n hk => ⟨n, hk, Nat.le_refl _, fun _ => ⟨rfl, fun b hb => ?_⟩⟩⟩
      · unfold setF; split
        · rename_i h; rw [h, h0]; exact Nat.zero_le _
        · exact Nat.le_refl _
      · have h1 := (hs.tokin k b hb).2
        exact ⟨Below.heap_alloc _ _ _ h1, by unfold setF; rw [if_neg (by omega)]⟩
    exact leads_val hrun S (.rep _ _ (rep_row (el := el) hsz' ⟨hcs.1, fun i c v hc hv' => ⟨(hcs.2 i c v hc hv').1, fun j x u hx hu' => ⟨(((hcs.2 i c v hc hv').2 j x u hx hu').1.anyBox [] (hnr c (List.mem_of_getElem? hc) x (List.mem_of_getElem? hx))).later L (by simp), ((hcs.2 i c v hc hv').2 j x u hx hu').2⟩⟩⟩ (heap_alloc_new w _) (by simp [setF]) (fun k hk => by cases hk) (by omega))) hk

theorem leads_append (hs : Sim n w0 F0 box0 g ⟨e, bx, f⟩ a w) {t : TypeId} {x y : Operand} {k : AV → List ABox → Fr → Prop} (ho : o.op = .call { callee := .builtin .append, args := #[x, y], argTypes := #[t, t] })
    (hg : goodElem P t = true)
    (h : evG true e x fun x => evG true e y fun y => gList y fun ys => match x with
      | .list (some j) xs => (match f[j]? with
        | some (t', sz', n) => Need (t' = elemTy P t) (Need (sz' = P.cellsOf (elemTy P t)) (Need (n = xs.length) (Need (∀ c ∈ ys, c.length = P.cellsOf (elemTy P t)) (Need ((xs.length + ys.length) * bytesOf P (elemTy P t) ≤ 140737488355328 ∧ xs.length + ys.length ≤ 1099511627776)
          (k (.list (some j) (xs ++ ys)) bx (f.set j (elemTy P t, P.cellsOf (elemTy P t), xs.length + ys.length)))))))
        | none => Stop)
      | .val (.slice none 0 0) => Need (∀ c ∈ ys, c.length = P.cellsOf (elemTy P t)) (Need (ys.length * bytesOf P (elemTy P t) ≤ 140737488355328 ∧ ys.length ≤ 1099511627776) (k (.list (some f.length) ys) bx (f ++ [(elemTy P t, P.cellsOf (elemTy P t), ys.length)])))
      | _ => Stop) : Leads P n w0 F0 box0 e a o w k := by
  obtain ⟨el, ti, z, hu, hi, hz, hzs, hpos, h64, hel, hcz⟩ := goodElem_inv hg
  have hby : bytesOf P el = ti.bytes := by simp [bytesOf, hi]
  rw [hel, hcz, hby] at h
  obtain ⟨xv, h1, hxv⟩ := evG_sound hs.env h
  clear h
  obtain ⟨yv, h2, hyv⟩ := evG_sound hs.env h1
  clear h1
  obtain ⟨ys, ay, capy, szy, by', offy, vsy, h3, hy, hcapy, hay, hszy, hFy, hcy, hry⟩ := gList_rep h2 hyv
  clear h2
  have run : ∀ {v v' : Value} {w' : World}, a.eval x = v → (Builtin.append_ #[t, t] o.type #[v, .slice ay ys.length capy]).run P w = .ok v' w' → (execOp a.eval o).run P w = .ok (.value v') w' := fun {v v' w'} hv hr => by
    simp only [execOp, ho, resolve, invoke, builtin, Sem.run_bind, Sem.run_pure, Result.andThen_ok, List.map_toArray, List.map_cons, List.map_nil, hv, hy, hr]
  split at h3
  · rename_i j xs
    split at h3
    case h_2 => exact h3.no
    rename_i t' sz' m hj
    obtain ⟨rfl, rfl, rfl, hsz, ⟨hb, h40⟩, hk⟩ := h3
    obtain ⟨v', w', g', hr, hbox, S, hrep⟩ := append_list (ty := o.type) hs hu hi hz hzs hpos hxv.list_inv hj hay hszy hcy hry hsz h40 hb
    exact leads_val (run rfl hr) S (.rep _ _ hrep) hk
  · obtain ⟨hsz, ⟨hb, h40⟩, hk⟩ := h3
    have S0 := hs.nilTok (el, ti.size, 0)
    have hlen := hs.toklen
    simp only at hlen
    have hx0 : Rep w0.heap.size w g.F (g.tok ++ [none]) (f ++ [(el, ti.size, 0)]) g.box (.list (some f.length) []) (.slice none 0 0) :=
      .list (some f.length) [] none 0 ti.size 0 0 (fun _ _ => undef) (Nat.le_refl _) (fun h => absurd rfl h) (by simp) (fun h => absurd rfl h) (by simp) (by simp) (fun k hk => by
        cases hk
        exact ⟨el, ti.size, 0, by simp, Nat.le_refl _, fun _ => ⟨rfl, ⟨[], World.ownsRow_nil w _ el ti.size⟩, by rw [← hlen]; simp, by simp⟩⟩)
    have L : Later w g.F g.tok f w g.F (g.tok ++ [none]) (f ++ [(el, ti.size, 0)]) := by
      refine ⟨fun _ _ _ => rfl, fun _ => Nat.le_refl _, fun k t s n hk => ?_⟩
      have hlt := getElem?_lt hk
      exact ⟨n, by rw [List.getElem?_append_left hlt]; exact hk, Nat.le_refl _, fun _ => ⟨by rw [List.getElem?_append_left (by omega)], fun b hb => ⟨rfl, rfl⟩⟩⟩
    obtain ⟨v', w', g', hr, hbox, S, hrep⟩ := append_list (ty := o.type) (j := f.length) (xs := []) (ys := ys) S0 hu hi hz hzs hpos hx0 (by simp) hay hszy hcy (fun i e j c hi hj => (hry i e j c hi hj).later L (by simp)) hsz (by simpa using h40) (by simpa using hb)
    have e1 : (f ++ [(el, ti.size, 0)]).set f.length (el, ti.size, ([] : List (List AV)).length + ys.length) = f ++ [(el, ti.size, ys.length)] := by simp
    rw [e1] at S hrep
    exact leads_val (run hxv.val_inv hr) S (.rep _ _ hrep) hk
  · exact h3.no
end
end Abs
end Go.Proofs.Ytamcaplpgmloiaa
