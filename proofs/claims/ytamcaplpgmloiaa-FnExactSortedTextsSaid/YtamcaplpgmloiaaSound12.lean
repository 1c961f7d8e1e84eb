/-
  Calls; each operation; a region.
-/
import Derived.Test.YtamcaplpgmloiaaMove
namespace Go.Proofs.Ytamcaplpgmloiaa
namespace Abs
variable {mo : Bool}
open Go.RowKit

section
variable {P : Program} {n : Nat} {w0 : World} {F0 : Nat → Nat} {box0 : List BId} {g : G} {e : Env} {bx : List ABox} {f : Fr} {a : Act} {w : World} {o : Oper}

theorem okFn_inv {fid : Nat} (h : okFn P fid = true) : ∃ fn, P.funcs[fid]? = some fn ∧ (fn.name == "runtime.NumGoroutine" || fn.body.isNone) = false := by
  unfold okFn at h
  split at h
  · rename_i fn hf
    refine ⟨fn, hf, ?_⟩
    simp only [Bool.and_eq_true, Bool.not_eq_true'] at h
    rw [h.1, Bool.false_or]
    cases hb : fn.body with
    | none => rw [hb] at h; simp at h
    | some b => rfl
  · cases h

theorem run_call {c : Go.Call} {fid : FuncId} {fn : Func} (ho : o.op = .call c) (hc : c.callee = .value (.func fid)) (hf : P.funcs[fid]? = some fn) (hn : (fn.name == "runtime.NumGoroutine" || fn.body.isNone) = false) (w : World) :
    (execOp a.eval o).run P w = .ok (.enter fid (c.args.map a.eval)) w := by
  simp only [Bool.or_eq_false_iff] at hn
  have h1 : ¬ fn.name = "runtime.NumGoroutine" := by simpa using hn.1
  have h2 : ¬ fn.body = none := fun h => by rw [h] at hn; simp at hn
  simp [execOp, ho, resolve, hc, Act.eval, Deferred.ofValue, invoke, callFunc, hf, h1, h2]

theorem run_callv {c : Go.Call} {t : Nat} {fid : FuncId} {vf vc : Array Value} (ho : o.op = .call c) (hc : c.callee = .value (.tmp t)) (hv : a.eval (.tmp t) = .func (.func fid) vf vc) (hk : okFn P fid = true) (w : World) :
    (execOp a.eval o).run P w = .ok (.enter fid (vf ++ c.args.map a.eval ++ vc)) w := by
  obtain ⟨fn, hf, hn⟩ := okFn_inv hk
  simp only [Bool.or_eq_false_iff] at hn
  have h1 : ¬ fn.name = "runtime.NumGoroutine" := by simpa using hn.1
  have h2 : ¬ fn.body = none := fun h => by rw [h] at hn; simp at hn
  simp [execOp, ho, resolve, hc, hv, Deferred.ofValue, invoke, callFunc, hf, h1, h2]

theorem both_sees {S : AV → AV → Prop} {R : AV → Value → Prop} {R' : AV → Value → Prop} {vs ys : List AV} {us : List Value} (h : Both R vs us) (hv : SeesL S vs ys) (hS : ∀ x y v, S x y → R x v → R' y v) : Both R' ys us :=
  ⟨by rw [← hv.length]; exact h.1, fun i y v hy hu => by
    obtain ⟨x, hx, hs⟩ := hv.get' hy
    exact hS x y v hs (h.2 i x v hx hu)⟩

/-- all of the memory that is there -/
def bigF (w : World) (F : Nat → Nat) (b : Nat) : Nat := max (F b) (match w.heap[b]? with | some (.cells c _ _) => c.size | _ => 0)
theorem bigF_le (w : World) (F : Nat → Nat) (b : Nat) : F b ≤ bigF w F b := Nat.le_max_left _ _
theorem bigF_cells {w : World} {F : Nat → Nat} (b : Nat) (c : Array Value) (t : TypeId) (z : Nat × Nat) (h : w.heap[b]? = some (.cells c t z)) : c.size ≤ bigF w F b := by
  unfold bigF; rw [h]; exact Nat.le_max_right _ _
theorem bigF_out {w : World} {F : Nat → Nat} {b : Nat} (hb : w.heap.size ≤ b) (h : F b = 0) : bigF w F b = 0 := by
  unfold bigF; rw [h, Array.getElem?_eq_none hb]; rfl

theorem scal_rep {x : AV} (h : isScal x = true) : ∃ v, ∀ {B : Nat} {w : World} {F : Nat → Nat} {tok : List (Option Nat)} {fr : Fr} {box : List BId}, Rep B w F tok fr box x v ∧ ∀ u, Rep B w F tok fr box x u → u = v := by
  cases x with
  | val v => exact ⟨v, .val v, fun u hu => hu.val_inv⟩
  | str s => exact ⟨mkS s, .str s, fun u hu => by cases hu; rfl⟩
  | _ => cases h

/-- a plain result stands for one value, wherever -/
theorem scalR_rep {x : AV} (h : isScalR x = true) : ∃ v, ∀ {B : Nat} {w : World} {F : Nat → Nat} {tok : List (Option Nat)} {fr : Fr} {box : List BId}, Rep B w F tok fr box x v ∧ ∀ u, Rep B w F tok fr box x u → u = v := by
  by_cases ht : ∃ vs, x = .tup vs
  · obtain ⟨vs, rfl⟩ := ht
    have hall : ∀ (i : Nat) c, vs[i]? = some c → isScal c = true := fun i c hc => List.all_eq_true.1 h c (List.mem_of_getElem? hc)
    have key : ∀ vs : List AV, (∀ c ∈ vs, isScal c = true) → ∃ us : List Value, us.length = vs.length ∧ ∀ (i : Nat) c u, vs[i]? = some c → us[i]? = some u →
        ∀ {B : Nat} {w : World} {F : Nat → Nat} {tok : List (Option Nat)} {fr : Fr} {box : List BId}, Rep B w F tok fr box c u ∧ ∀ u', Rep B w F tok fr box c u' → u' = u := by
      intro vs
      induction vs with
      | nil => exact fun _ => ⟨[], rfl, fun i c u h => by simp at h⟩
      | cons c vs ih =>
        intro hs
        obtain ⟨v, hv⟩ := scal_rep (hs c (by simp))
        obtain ⟨us, h1, h2⟩ := ih (fun c hc => hs c (by simp [hc]))
        refine ⟨v :: us, by simp [h1], fun i c' u hc hu => ?_⟩
        cases i with
        | zero => simp at hc hu; subst hc; subst hu; exact hv
        | succ i => exact h2 i c' u (by simpa using hc) (by simpa using hu)
    obtain ⟨us, h1, h2⟩ := key vs (fun c hc => by obtain ⟨i, hi⟩ := List.getElem?_of_mem hc; exact hall i c hi)
    refine ⟨.tuple us.toArray, fun {B w F tok fr box} => ⟨.tup _ _ (by simp [h1]) (fun i c hc => ?_), fun u hu => ?_⟩⟩
    · have hi : i < us.length := by have := getElem?_lt hc; omega
      have e1 : us.toArray.getD i undef = us[i] := by simp [Array.getD, hi]
      rw [e1]; exact (h2 i c _ hc (List.getElem?_eq_getElem hi)).1
    · cases hu with
      | tup _ ws hl hr =>
        congr 1
        apply Array.ext
        · simp [← hl, h1]
        · intro i hi1 hi2
          have hi : i < vs.length := by omega
          have hi' : i < us.length := by omega
          have := (h2 i _ _ (List.getElem?_eq_getElem hi) (List.getElem?_eq_getElem hi') (B := B) (w := w) (F := F) (tok := tok) (fr := fr) (box := box)).2 _ (hr i _ (List.getElem?_eq_getElem hi))
          simpa [Array.getD, hi1] using this
  · refine scal_rep ?_
    cases x <;> first | exact absurd ⟨_, rfl⟩ ht | exact h

/-- more of what is read -/
theorem Sim.moreF (hs : Sim mo n w0 F0 box0 g ⟨e, bx, f⟩ a w) (F' : Nat → Nat) (B : Nat) (hB : w0.heap.size ≤ B) (hb : ∀ (j b c : Nat), g.box[j]? = some (.blk b c) → b < B) (ht : ∀ (k b : Nat), g.tok[k]? = some (some b) → b < B)
    (h1 : ∀ b, b < B → F' b = g.F b) (h2 : ∀ b, g.F b ≤ F' b) (h3 : ∀ b, w.heap.size ≤ b → F' b = 0) : Sim mo n w0 F0 box0 { g with F := F' } ⟨e, bx, f⟩ a w := by
  have L : Later w g.F g.tok f w F' g.tok f := ⟨fun _ _ _ => rfl, h2, fun k t s m hk => ⟨m, hk, Nat.le_refl _, fun _ => ⟨rfl, fun b hb' => ⟨rfl, h1 b (ht k b hb')⟩⟩⟩⟩
  exact { hs with
    env := hs.env.later L (fun _ _ h => h)
    old := fun b hb' => by simp only; rw [h1 b (by omega)]; exact hs.old b hb'
    out := h3
    boxF := fun j b c hj hl => by simp only; rw [h1 b (hb j b c hj)]; exact hs.boxF j b c hj hl
    boxrep := hs.boxrep.later L (fun _ _ _ _ _ => rfl) }

mutual
theorem notDead : ∀ (x : Tr) (m i : Nat), (gb x m)[i]? ≠ some .dead
  | .v _, _, _ => by simp [gb]
  | .s _, _, _ => by simp [gb]
  | .l t sz xs, m, i => by
    rw [gb]
    cases i with
    | zero => simp
    | succ i => rw [List.getElem?_cons_succ]; exact notDeadLL xs (m + 1) i
  | .a fs, m, i => by rw [gb]; exact notDeadL fs m i
  | .p fs, m, i => by rw [gb]; exact notDeadL fs m i
theorem notDeadL : ∀ (x : List Tr) (m i : Nat), (gbL x m)[i]? ≠ some .dead
  | [], _, _ => by simp [gbL]
  | x :: xs, m, i => by
    rw [gbL, List.getElem?_append]
    split
    · exact notDead x m i
    · exact notDeadL xs _ _
theorem notDeadLL : ∀ (x : List (List Tr)) (m i : Nat), (gbLL x m)[i]? ≠ some .dead
  | [], _, _ => by simp [gbLL]
  | x :: xs, m, i => by
    rw [gbLL, List.getElem?_append]
    split
    · exact notDeadL x m i
    · exact notDeadLL xs _ _
end

theorem noTkL_mem : ∀ {cs : List AV} {c : AV}, noTkL cs = true → c ∈ cs → noTk c = true
  | d :: cs, c, h, hc => by
    rw [noTkL, Bool.and_eq_true] at h
    rcases List.mem_cons.1 hc with rfl | hc
    · exact h.1
    · exact noTkL_mem h.2 hc
theorem noTkLL_mem : ∀ {xs : List (List AV)} {e : List AV}, noTkLL xs = true → e ∈ xs → noTkL e = true
  | d :: xs, e, h, he => by
    rw [noTkLL, Bool.and_eq_true] at h
    rcases List.mem_cons.1 he with rfl | he
    · exact h.1
    · exact noTkLL_mem h.2 he
theorem Rep.noTk {B B' : Nat} {w : World} {F : Nat → Nat} {tok : List (Option Nat)} {fr : Fr} {box : List BId} {x : AV} {v : Value} (h : Rep B w F tok fr box x v) (hn : Abs.noTk x = true) : Rep B' w F [] [] box x v := by
  induction h with
  | any v => exact .any v
  | val v => exact .val v
  | str s => exact .str s
  | list o xs a cap sz b off vs hcap ha hsz hF hc hr ho ih =>
    cases o with
    | some k => rw [Abs.noTk] at hn; cases hn
    | none =>
      rw [Abs.noTk] at hn
      exact .list none xs a cap sz b off vs hcap ha hsz hF hc (fun i e j c hi hj => ih i e j c hi hj (noTkL_mem (noTkLL_mem hn (List.mem_of_getElem? hi)) (List.mem_of_getElem? hj))) (fun k hk => by cases hk)
  | agg cs vs h h1 _ ih => rw [Abs.noTk] at hn; exact .agg cs vs h h1 (fun i c hc => ih i c hc (noTkL_mem hn (List.mem_of_getElem? hc)))
  | tup cs vs h _ ih => rw [Abs.noTk] at hn; exact .tup cs vs h (fun i c hc => ih i c hc (noTkL_mem hn (List.mem_of_getElem? hc)))
  | rptr cs b off vs hF hc hr ih => rw [Abs.noTk] at hn; exact .rptr cs b off vs hF hc (fun j c hj => ih j c hj (noTkL_mem hn (List.mem_of_getElem? hj)))
  | bptr j off b cap h => exact .bptr j off b cap h
  | bsl j l b cap h hl => exact .bsl j l b cap h hl
  | bnil j h => exact .bnil j h
  | clo f first caps vf vc h1 h2 _ _ ih1 ih2 =>
    rw [Abs.noTk, Bool.and_eq_true] at hn
    exact .clo f first caps vf vc h1 h2 (fun i c hc => ih1 i c hc (noTkL_mem hn.1 (List.mem_of_getElem? hc))) (fun i c hc => ih2 i c hc (noTkL_mem hn.2 (List.mem_of_getElem? hc)))
/-- what is read without slices of one's own reads so in any company -/
theorem Rep.up {B B' : Nat} {w : World} {F : Nat → Nat} {tok : List (Option Nat)} {fr : Fr} {box : List BId} {x : AV} {v : Value} (h : Rep B w F [] [] box x v) : Rep B' w F tok fr box x v := by
  induction h with
  | any v => exact .any v
  | val v => exact .val v
  | str s => exact .str s
  | list o xs a cap sz b off vs hcap ha hsz hF hc hr ho ih =>
    exact .list o xs a cap sz b off vs hcap ha hsz hF hc ih (fun k hk => by obtain ⟨t, s, n, hf, _⟩ := ho k hk; simp at hf)
  | agg cs vs h h1 _ ih => exact .agg cs vs h h1 ih
  | tup cs vs h _ ih => exact .tup cs vs h ih
  | rptr cs b off vs hF hc hr ih => exact .rptr cs b off vs hF hc ih
  | bptr j off b cap h => exact .bptr j off b cap h
  | bsl j l b cap h hl => exact .bsl j l b cap h hl
  | bnil j h => exact .bnil j h
  | clo f first caps vf vc h1 h2 _ _ ih1 ih2 => exact .clo f first caps vf vc h1 h2 ih1 ih2
theorem BoxOk.up {B B' : Nat} {w : World} {F : Nat → Nat} {tok : List (Option Nat)} {fr : Fr} {box : List BId} {d : BId} {x : ABox} (h : BoxOk B w F [] [] box d x) : BoxOk B' w F tok fr box d x := by
  cases d with
  | blk b c =>
    cases x with
    | cells k cs =>
      obtain ⟨c, t, h1, h2, h3, h4⟩ := h
      exact ⟨c, t, h1, h2, fun i x hx => ⟨(h3 i x hx).1.up, (h3 i x hx).2⟩, h4⟩
    | iter s p => exact h
    | dead => exact trivial
  | nil =>
    cases x with
    | cells k cs => exact h
    | iter s p => exact h
    | dead => exact trivial
theorem BoxOk.noTk {B B' : Nat} {w : World} {F : Nat → Nat} {tok : List (Option Nat)} {fr : Fr} {box : List BId} {d : BId} {k : RK} {cs : List AV} (h : BoxOk B w F tok fr box d (.cells k cs)) (hn : ∀ c ∈ cs, Abs.noTk c = true) : BoxOk B' w F [] [] box d (.cells k cs) := by
  cases d with
  | blk b c =>
    obtain ⟨c, t, h1, h2, h3, h4⟩ := h
    exact ⟨c, t, h1, h2, fun i x hx => ⟨(h3 i x hx).1.noTk (hn x (List.mem_of_getElem? hx)), (h3 i x hx).2⟩, h4⟩
  | nil => exact h
theorem Lends.len {b b0 : List ABox} (h : Lends b b0) : b0.length = b.length := by induction h <;> simp_all
theorem Lends.get {b b0 : List ABox} (h : Lends b b0) : ∀ (i : Nat) x, b0[i]? = some x → x = .dead ∨ (b[i]? = some x ∧ ∃ k cs, x = .cells k cs ∧ ∀ c ∈ cs, noTk c = true) := by
  induction h with
  | nil => intro i x hx; simp at hx
  | hide y _ ih =>
    intro i x hx
    cases i with
    | zero => simp at hx; exact .inl hx.symm
    | succ i => exact ih i x (by simpa using hx)
  | lend k cs hc _ ih =>
    intro i x hx
    cases i with
    | zero => simp at hx; exact .inr ⟨by simpa using hx, k, cs, hx.symm, hc⟩
    | succ i => exact ih i x (by simpa using hx)
theorem merge_get : ∀ (b b0 b1 : List ABox), b0.length = b.length → b.length ≤ b1.length → (merge b b0 b1).length = b1.length ∧
    ∀ i : Nat, (b0[i]? = some .dead → (merge b b0 b1)[i]? = b[i]?) ∧ (b0[i]? ≠ some .dead → (merge b b0 b1)[i]? = b1[i]?)
  | [], [], b1, _, _ => ⟨by cases b1 <;> rfl, fun i => ⟨by simp, fun _ => by cases b1 <;> rfl⟩⟩
  | [], _ :: _, _, h, _ => by simp at h
  | _ :: _, [], _, h, _ => by simp at h
  | _ :: _, _ :: _, [], _, h => by simp at h
  | x :: b, y :: b0, z :: b1, h, h' => by
    obtain ⟨h1, h2⟩ := merge_get b b0 b1 (by simpa using h) (by simpa using h')
    cases y with
    | dead =>
      refine ⟨by simp [merge, h1], fun i => ?_⟩
      cases i with
      | zero => simp [merge]
      | succ i => simpa [merge] using h2 i
    | cells k cs =>
      refine ⟨by simp [merge, h1], fun i => ?_⟩
      cases i with
      | zero => simp [merge]
      | succ i => simpa [merge] using h2 i
    | iter s p =>
      refine ⟨by simp [merge, h1], fun i => ?_⟩
      cases i with
      | zero => simp [merge]
      | succ i => simpa [merge] using h2 i
theorem mask_get : ∀ (b : List ABox) (box : List BId) (j : Nat) (q c : Nat), (mask b box)[j]? = some (.blk q c) → box[j]? = some (.blk q c) ∧ b[j]? ≠ some .dead ∧ j < b.length
  | [], _, j, q, c, h => by simp [mask] at h
  | x :: _, [], j, q, c, h => by cases x <;> simp [mask] at h
  | x :: b, d :: box, j, q, c, h => by
    cases x with
    | dead =>
      cases j with
      | zero => simp [mask] at h
      | succ j => simpa [mask] using mask_get b box j q c (by simpa [mask] using h)
    | cells k cs =>
      cases j with
      | zero => simp [mask] at h ⊢; exact h
      | succ j => simpa [mask] using mask_get b box j q c (by simpa [mask] using h)
    | iter s p =>
      cases j with
      | zero => simp [mask] at h ⊢; exact h
      | succ j => simpa [mask] using mask_get b box j q c (by simpa [mask] using h)

theorem leads_callsB (hs : Sim mo n w0 F0 box0 g ⟨e, bx, f⟩ a w) {fid : FuncId} {k : AV → List ABox → Fr → Prop} {vs : List AV} {us : List Value} (hvs : Both (RepT w0.heap.size w g.F g.tok f g.box) vs us)
    (hrun : okFn P fid = true → (execOp a.eval o).run P w = .ok (.enter fid us.toArray) w) {lend : Bool} (h : ACall (ACon mo P) lend fid vs bx f k) :
    ∀ (next : Act → World → Prop) (Q : Exit → Act → World → Prop),
      (∀ g' bx' f' x v w', Sim mo n w0 F0 box0 g' ⟨e, bx', f'⟩ a w' → RepT w0.heap.size w' g'.F g'.tok f' g'.box x v → k x bx' f' → (lend = false → Bel mo w.heap.size w w') → next (a.put o.dst v) w') → o.wp P a w next Q := by
  intro next Q hnext
  unfold Oper.wp
  have hlen := hs.toklen
  simp only at hlen
  have hbox : ∀ (j b c : Nat), g.box[j]? = some (.blk b c) → b < w.heap.size := fun j b c hj => (hs.boxin j b c hj).2
  have htok : ∀ (k b : Nat), g.tok[k]? = some (some b) → b < w.heap.size := fun k b hk => (hs.tokin k b hk).2
  have big : ∀ ys, SeesL (SeesB bx) vs ys → Both (Rep w.heap.size w (bigF w g.F) [] [] []) ys us.toArray.toList := fun ys hv => by
    simpa using both_sees hvs hv (fun x y v hS hx => hS (bigF w g.F) hs.boxrep (bigF_le w g.F) bigF_cells hx w.heap.size [])
  cases h with
  | mk ys r frs h hv hk =>
    obtain ⟨hok, hR⟩ := h
    rw [hrun hok, Oper.upon_enter]
    have hargs : Both (Rep w.heap.size w g.F [] [] []) ys us.toArray.toList := by simpa using both_sees hvs hv (fun x y v hS hx => hS hx w.heap.size [])
    refine (hR w g.F us.toArray hs.out hargs).mono ?_
    rintro en w' ⟨v, F', tok, box, rfl, hb, hold, hout, htl, htin, htinj, hrep⟩
    have L : Later w g.F g.tok f w' F' (g.tok ++ tok) (f ++ frs) := by
      have L0 := later_below hs hb
      refine ⟨L0.cell, fun b => ?_, fun k t s m hk => ?_⟩
      · rcases Nat.lt_or_ge b w.heap.size with h | h
        · rw [hold b h]; exact Nat.le_refl _
        · rw [hs.out b h]; exact Nat.zero_le _
      · have hlt := getElem?_lt hk
        refine ⟨m, by rw [List.getElem?_append_left hlt]; exact hk, Nat.le_refl _, fun _ => ⟨by rw [List.getElem?_append_left (by omega)], fun b hb' => ?_⟩⟩
        have hbw := htok k b hb'
        exact ⟨hb.block b hbw, hold b hbw⟩
    have S : Sim mo n w0 F0 box0 ⟨F', g.tok ++ tok, g.box⟩ ⟨e, bx, f ++ frs⟩ a w' := {
      defers := hs.defers, size := hs.size
      env := hs.env.later L (fun _ _ h => h)
      below := hs.below.trans hb
      old := fun b h => by simp only; rw [hold b (Nat.lt_of_lt_of_le h hs.below.size)]; exact hs.old b h
      out := hout
      boxlen := hs.boxlen
      boxpre := hs.boxpre
      boxin := fun j b c h => ⟨(hs.boxin j b c h).1, Nat.lt_of_lt_of_le (hbox j b c h) hb.size⟩
      boxF := fun j b c h hl => by simp only; rw [hold b (hbox j b c h)]; exact hs.boxF j b c h hl
      boxrep := hs.boxrep.later L (fun j b c h _ => hb.block b (hbox j b c h))
      boxinj := hs.boxinj
      toklen := by simp [hlen, htl]
      tokin := fun k b h => by
        rw [List.getElem?_append] at h
        split at h
        · have := hs.tokin k b h; exact ⟨this.1, Nat.lt_of_lt_of_le this.2 hb.size⟩
        · have := htin _ b h; exact ⟨Nat.le_trans hs.below.size this.1, this.2⟩
      tokbox := fun k b j c h hj => by
        rw [List.getElem?_append] at h
        split at h
        · exact hs.tokbox k b j c h hj
        · have := htin _ b h; have := hbox j b c hj; omega
      tokinj := fun i j b hi hj => by
        rw [List.getElem?_append] at hi hj
        split at hi <;> split at hj
        · exact hs.tokinj i j b hi hj
        · have := htok i b hi; have := (htin _ b hj).1; omega
        · have := htok j b hj; have := (htin _ b hi).1; omega
        · have := htinj _ _ b hi hj; omega }
    refine hnext _ _ _ _ _ _ S (.rep _ _ (hrep.mapT _ (fun k l hkl t s m hk => ?_) (fun _ _ _ => hs.below.size) g.box)) hk (fun _ => hb)
    cases hkl
    refine ⟨?_, ?_⟩
    · rw [List.getElem?_append_right (by omega), Nat.add_sub_cancel]; exact hk
    · show (g.tok ++ tok)[k + f.length]? = tok[k]?
      rw [List.getElem?_append_right (by omega), hlen, Nat.add_sub_cancel]
  | scal ys r h hr hv hk =>
    obtain ⟨hok, hR⟩ := h
    rw [hrun hok, Oper.upon_enter]
    refine (hR w (bigF w g.F) us.toArray (fun b hb => bigF_out hb (hs.out b hb)) (big ys hv)).mono ?_
    rintro en w' ⟨v, F', tok, box, rfl, hb, _, _, _, _, _, hrep⟩
    obtain ⟨v0, hv0⟩ := scalR_rep hr
    have : v = v0 := hv0.2 v hrep
    subst this
    exact hnext _ _ _ _ _ _ (hs.world hb) (.rep _ _ hv0.1) hk (fun _ => hb)
  | old ys x h hv ho hk =>
    obtain ⟨hok, hR⟩ := h
    rw [hrun hok, Oper.upon_enter]
    refine (hR w (bigF w g.F) us.toArray (fun b hb => bigF_out hb (hs.out b hb)) (big ys hv)).mono ?_
    rintro en w' ⟨v, ds, rfl, hb, hown, hnd, hds⟩
    have S := (hs.world hb).moreF (fun b => if b ∈ ds then bigF w' g.F b else g.F b) w.heap.size hs.below.size hbox htok
      (fun b hlt => by rw [if_neg (fun hm => by have := (hds b hm).1; omega)])
      (fun b => by split; exact bigF_le _ _ _; exact Nat.le_refl _)
      (fun b hge => by rw [if_neg (fun hm => by have := (hds b hm).2; omega)]; exact hs.out b (Nat.le_trans hb.size hge))
    refine hnext _ _ _ _ _ _ S (.rep _ _ (hown.rep _ _ _ _ (fun d hd c t z hh => ?_) (by simp [okTL, ho]) 0 x v rfl rfl _)) hk (fun _ => hb)
    simp only [if_pos hd]; exact bigF_cells d c t z hh
  | unb ys x h hv hk =>
    obtain ⟨hok, hR⟩ := h
    rw [hrun hok, Oper.upon_enter]
    refine (hR w (bigF w g.F) us.toArray (fun b hb => bigF_out hb (hs.out b hb)) (big ys hv)).mono ?_
    rintro en w' ⟨v, ds, rfl, hb, hown, hnd, hds⟩
    have S0 := hs.world hb
    have hbl := hs.boxlen
    simp only at hbl
    obtain ⟨ids, i1, i2, i3, i4⟩ := hown.boxes w0.heap.size g.F g.tok f
    have i1' : ids.length = (gb x bx.length).length := by rw [length_gb, i1]; simp [nbL]
    obtain ⟨r1, r2⟩ := i4 bx.length (g.box ++ ids) (fun i d hi => by rw [← hbl, List.getElem?_append_right (by omega), Nat.add_sub_cancel_left]; exact hi)
    have hext : ∀ (j : Nat) d, g.box[j]? = some d → (g.box ++ ids)[j]? = some d := fun j d h => by rw [List.getElem?_append_left (getElem?_lt h)]; exact h
    have cases2 : ∀ {j : Nat} {d : BId}, (g.box ++ ids)[j]? = some d → (g.box[j]? = some d ∧ j < bx.length) ∨ (ids[j - bx.length]? = some d ∧ bx.length ≤ j) := fun {j d} h => by
      rw [List.getElem?_append] at h
      split at h
      · exact .inl ⟨h, by omega⟩
      · exact .inr ⟨by rw [← hbl]; exact h, by omega⟩
    have L : Later w' g.F g.tok f w' g.F g.tok f := Later.refl _ _ _ _
    have livel : ∀ {j : Nat}, j < bx.length → (live (bx ++ gb x bx.length) j ↔ live bx j) := fun h => live_append h
    have S : Sim mo n w0 F0 box0 { g with box := g.box ++ ids } ⟨e, bx ++ gb x bx.length, f⟩ a w' := { S0 with
      env := S0.env.later L hext
      boxlen := by simp [hbl, i1']
      boxpre := fun j d h => hext j d (hs.boxpre j d h)
      boxin := fun j b c h => by
        rcases cases2 h with ⟨h, _⟩ | ⟨h, _⟩
        · exact S0.boxin j b c h
        · have := hds b (i2 _ b c h); exact ⟨.inl (Nat.le_trans hs.below.size this.1), this.2⟩
      boxF := fun j b c h hl => by
        rcases cases2 h with ⟨h, h'⟩ | ⟨h, _⟩
        · exact S0.boxF j b c h ((livel h').1 hl)
        · exact hs.out b (hds b (i2 _ b c h)).1
      boxrep := fun j d y h hy => by
        rcases cases2 h with ⟨h, h'⟩ | ⟨h, h'⟩
        · have hy' : bx[j]? = some y := by rw [List.getElem?_append_left h'] at hy; exact hy
          exact (S0.boxrep j d y h hy').later L hext (fun _ _ _ _ => rfl)
        · have hy' : (gb x bx.length)[j - bx.length]? = some y := by rw [List.getElem?_append_right h'] at hy; exact hy
          exact r2 _ d y h (by simpa [gbL] using hy')
      boxinj := fun i j b c c' hi hj li lj => by
        rcases cases2 hi with ⟨hi, hi'⟩ | ⟨hi, hi'⟩ <;> rcases cases2 hj with ⟨hj, hj'⟩ | ⟨hj, hj'⟩
        · exact S0.boxinj i j b c c' hi hj ((livel hi').1 li) ((livel hj').1 lj)
        · have := hbox i b c hi; have := (hds b (i2 _ b c' hj)).1; omega
        · have := hbox j b c' hj; have := (hds b (i2 _ b c hi)).1; omega
        · have := i3 hnd _ _ b c c' hi hj; omega
      tokbox := fun k b j c hk hj => by
        rcases cases2 hj with ⟨hj, hj'⟩ | ⟨hj, _⟩
        · intro hl; exact S0.tokbox k b j c hk hj ((livel hj').1 hl)
        · have := htok k b hk; have := (hds b (i2 _ b c hj)).1; omega }
    refine hnext _ _ _ _ _ _ S (.rep _ _ (r1 0 _ v rfl rfl)) hk (fun _ => hb)
  | turn hl ys x x' r pre post h hr hb0 hn hv hk =>
    obtain ⟨hok, hR⟩ := h
    subst hb0
    have hbl := hs.boxlen
    simp only [List.length_append, length_gb] at hbl
    -- the boxes that are lent
    have hmid : ∀ (i : Nat) d, i < nb x → (g.box[pre.length + i]? = some d ↔ ((g.box.drop pre.length).take (nb x))[0 + i]? = some d) := fun i d hi => by
      rw [List.getElem?_take, Nat.zero_add, if_pos hi, List.getElem?_drop]
    have hget : ∀ {i : Nat} {d : BId}, ((g.box.drop pre.length).take (nb x))[i]? = some d → i < nb x ∧ g.box[pre.length + i]? = some d := fun {i d} h => by
      rw [List.getElem?_take] at h
      split at h
      · rw [List.getElem?_drop] at h; exact ⟨by assumption, h⟩
      · cases h
    have bxmid : ∀ {i : Nat}, i < nb x → (pre ++ gb x pre.length ++ post)[pre.length + i]? = (gb x pre.length)[i]? := fun {i} hi => by
      rw [List.append_assoc, List.getElem?_append_right (by omega), Nat.add_sub_cancel_left, List.getElem?_append_left (by rw [length_gb]; exact hi)]
    have notdead : ∀ (x : Tr) (m i : Nat), (gb x m)[i]? ≠ some .dead := notDead
    have lmid : ∀ {i : Nat}, i < nb x → live (pre ++ gb x pre.length ++ post) (pre.length + i) := fun {i} hi h => by
      rw [bxmid hi] at h; exact notdead x _ _ h
    have hin : ∀ {i b c : Nat}, ((g.box.drop pre.length).take (nb x))[i]? = some (.blk b c) → g.box[pre.length + i]? = some (.blk b c) ∧ live (pre ++ gb x pre.length ++ post) (pre.length + i) := fun {i b c} h => ⟨(hget h).2, lmid (hget h).1⟩
    have hBO : BoxesOk w.heap.size w g.F [] [] ((g.box.drop pre.length).take (nb x)) (gb x 0) := fun j d y hd hy => by
      refine gb_move (n := pre.length) (m := 0) (B := w0.heap.size) (F := g.F) (tok := g.tok) (fr := f) (box := g.box) x (fun i d hi => hmid i d hi) (fun j d y hd hy => hs.boxrep (pre.length + j) d y hd ?_) j d y (by rw [Nat.zero_add]; exact hd) hy
      rw [bxmid (by have := getElem?_lt hy; rw [length_gb] at this; exact this)]; exact hy
    have hargs : Both (Rep w.heap.size w g.F [] [] ((g.box.drop pre.length).take (nb x))) ys us.toArray.toList := by
      have := both_sees (R' := Rep w.heap.size w g.F [] [] ((g.box.drop pre.length).take (nb x))) hvs hv (fun u y v hS hx => by
        rcases hS with ⟨rfl, rfl⟩ | hS
        · have hp : Rep w0.heap.size w g.F g.tok f g.box (gv x pre.length) v := hx.plain (fun g y => by cases x <;> simp [gv])
          exact gv_move x pre.length 0 (fun i d hi hd => (hmid i d hi).1 hd) v hp
        · exact hS hx _ _)
      simpa using this
    rw [hrun hok, Oper.upon_enter]
    refine (hR w g.F us.toArray _ hs.out (by rw [length_gb]; simp; omega) (fun j b c hj => ⟨hbox _ b c (hget hj).2, hs.boxF _ b c (hin hj).1 (hin hj).2⟩)
      (fun i j b c c' hi hj => by have := hs.boxinj _ _ b c c' (hin hi).1 (hin hj).1 (hin hi).2 (hin hj).2; omega) hBO hargs).mono ?_
    rintro en w' ⟨v, F', rfl, hkeep, hold, hout, hBO', hrep⟩
    obtain ⟨v0, hv0⟩ := scalR_rep hr
    have : v = v0 := hv0.2 v hrep
    subst this
    -- blocks of the state's own that are not lent stay
    have same : ∀ b, b < w.heap.size → (∀ (i c : Nat), i < nb x → g.box[pre.length + i]? ≠ some (.blk b c)) → w'.heap[b]? = w.heap[b]? := fun b hb hn => hkeep.block b hb (fun j c hj => hn j c (hget hj).1 (hget hj).2)
    have hFmid : ∀ (b i c : Nat), i < nb x → g.box[pre.length + i]? = some (.blk b c) → g.F b = 0 := fun b i c hi hj => hs.boxF _ b c hj (lmid hi)
    have L : Later w g.F g.tok f w' F' g.tok f := by
      refine ⟨fun b i hi => ?_, fun b => ?_, fun k t s m hk => ⟨m, hk, Nat.le_refl _, fun _ => ⟨rfl, fun b hb => ?_⟩⟩⟩
      · have hlt : b < w.heap.size := by
          rcases Nat.lt_or_ge b w.heap.size with h | h
          · exact h
          · rw [hs.out b h] at hi; omega
        exact World.cell?_of_block (w := w) (same b hlt (fun i' c hi' hj => by have := hFmid b i' c hi' hj; omega))
      · rcases Nat.lt_or_ge b w.heap.size with h | h
        · rw [hold b h]; exact Nat.le_refl _
        · rw [hs.out b h]; exact Nat.zero_le _
      · have hbw := htok k b hb
        exact ⟨same b hbw (fun i c hi hj => hs.tokbox k b _ c hb hj (lmid hi)), hold b hbw⟩
    have bxlen : (pre ++ gb x' pre.length ++ post).length = (pre ++ gb x pre.length ++ post).length := by simp [length_gb, hn]
    have bxother : ∀ {j : Nat}, (∀ i, i < nb x → j ≠ pre.length + i) → (pre ++ gb x' pre.length ++ post)[j]? = (pre ++ gb x pre.length ++ post)[j]? := fun {j} hj => by
      rcases Nat.lt_or_ge j pre.length with h | h
      · rw [List.append_assoc, List.append_assoc, List.getElem?_append_left h, List.getElem?_append_left h]
      · have h2 : nb x ≤ j - pre.length := by
          rcases Nat.lt_or_ge (j - pre.length) (nb x) with h3 | h3
          · exact absurd (by omega) (hj _ h3)
          · exact h3
        rw [List.getElem?_append_right (by simp [length_gb]; omega), List.getElem?_append_right (by simp [length_gb]; omega)]
        simp [length_gb, hn]
    have bxmid' : ∀ {i : Nat}, i < nb x → (pre ++ gb x' pre.length ++ post)[pre.length + i]? = (gb x' pre.length)[i]? := fun {i} hi => by
      rw [List.append_assoc, List.getElem?_append_right (by omega), Nat.add_sub_cancel_left, List.getElem?_append_left (by rw [length_gb, hn]; exact hi)]
    have lsame : ∀ {j : Nat}, live (pre ++ gb x' pre.length ++ post) j ↔ live (pre ++ gb x pre.length ++ post) j := fun {j} => by
      by_cases hj : ∃ i, i < nb x ∧ j = pre.length + i
      · obtain ⟨i, hi, rfl⟩ := hj
        refine ⟨fun _ => lmid hi, fun _ h => ?_⟩
        rw [bxmid' hi] at h; exact notdead x' _ _ h
      · unfold live; rw [bxother (fun i hi h => hj ⟨i, hi, h⟩)]
    have S : Sim mo n w0 F0 box0 { g with F := F' } ⟨e, pre ++ gb x' pre.length ++ post, f⟩ a w' := {
      defers := hs.defers, size := hs.size
      env := hs.env.later L (fun _ _ h => h)
      below := ⟨fun m => Nat.le_trans (hs.below.drawn m) (hkeep.drawn m), hkeep.os.trans hs.below.os, hkeep.tape.trans hs.below.tape, hkeep.output.trans hs.below.output, Nat.le_trans hs.below.size hkeep.size, fun b hb hnb => by
        rw [same b (Nat.lt_of_lt_of_le hb hs.below.size) (fun i c hi hj => ?_)]
        · exact hs.below.block b hb hnb
        · rcases (hs.boxin _ b c hj).1 with h | ⟨i', h⟩
          · omega
          · exact hnb i' c h⟩
      old := fun b h => by simp only; rw [hold b (Nat.lt_of_lt_of_le h hs.below.size)]; exact hs.old b h
      out := hout
      boxlen := by have := hs.boxlen; simp only at this ⊢; rw [bxlen]; exact this
      boxpre := hs.boxpre
      boxin := fun j b c h => ⟨(hs.boxin j b c h).1, Nat.lt_of_lt_of_le (hbox j b c h) hkeep.size⟩
      boxF := fun j b c h hl => by simp only; rw [hold b (hbox j b c h)]; exact hs.boxF j b c h (lsame.1 hl)
      boxrep := fun j d y hd hy => by
        by_cases hj : ∃ i, i < nb x ∧ j = pre.length + i
        · obtain ⟨i, hi, rfl⟩ := hj
          simp only at hy
          rw [bxmid' hi] at hy
          refine gb_move (n := 0) (m := pre.length) (B := w.heap.size) (F := F') (tok := []) (fr := []) (box := (g.box.drop pre.length).take (nb x)) x' (fun i d hi => by rw [hn] at hi; exact (hmid i d hi).symm)
            (fun j d y hd hy => hBO' j d y (by rw [Nat.zero_add] at hd; exact hd) hy) i d y hd hy
        · have hne : ∀ i, i < nb x → j ≠ pre.length + i := fun i hi h => hj ⟨i, hi, h⟩
          simp only at hy
          rw [bxother hne] at hy
          refine (hs.boxrep j d y hd hy).later L (fun _ _ h => h) (fun b c he hnd => same b (hbox j b c (he ▸ hd)) (fun i c' hi hj' => ?_))
          have := hs.boxinj j (pre.length + i) b c c' (he ▸ hd) hj' (fun h => hnd (by rw [hy] at h; exact Option.some.inj h)) (lmid hi)
          exact hne i hi this
      boxinj := fun i j b c c' hi hj li lj => hs.boxinj i j b c c' hi hj (lsame.1 li) (lsame.1 lj)
      toklen := hs.toklen
      tokin := fun k b h => ⟨(hs.tokin k b h).1, Nat.lt_of_lt_of_le (hs.tokin k b h).2 hkeep.size⟩
      tokbox := fun k b j c hk hj hl => hs.tokbox k b j c hk hj (lsame.1 hl)
      tokinj := hs.tokinj }
    exact hnext _ _ _ _ _ _ S (.rep _ _ hv0.1) hk (fun h0 => by rw [h0] at hl; cases hl)

  | ctx hl b0 ys Φ h hb0 hv hk =>
    obtain ⟨hok, hR⟩ := h
    have hbl := hs.boxlen
    simp only at hbl
    have hlen0 := hb0.len
    have hget := hb0.get
    have lv : ∀ {j : Nat}, live b0 j → live bx j := fun {j} h hd => by
      have hj := getElem?_lt hd
      have hx : b0[j]? = some b0[j] := List.getElem?_eq_getElem (by omega)
      rcases hget j _ hx with h' | ⟨h', _⟩
      · exact h (by rw [hx, h'])
      · rw [hd] at h'; exact h (by rw [hx]; exact congrArg some (Option.some.inj h').symm)
    have hBO : BoxesOk w.heap.size w g.F [] [] g.box b0 := fun j d y hd hy => by
      rcases hget j y hy with rfl | ⟨hy', k, cs, rfl, hc⟩
      · cases d <;> exact trivial
      · exact (hs.boxrep j d _ hd hy').noTk hc
    have hargs : Both (Rep w.heap.size w g.F [] [] g.box) ys us.toArray.toList := by
      have := both_sees (R' := Rep w.heap.size w g.F [] [] g.box) hvs hv (fun u y v hS hx => by
        rcases hS with ⟨rfl, hn⟩ | hS
        · exact (hx.plain (fun g y he => by rw [he, Abs.noTk] at hn; cases hn)).noTk hn
        · exact hS hx _ _)
      simpa using this
    rw [hrun hok, Oper.upon_enter]
    refine (hR w g.F us.toArray g.box hs.out (by omega) (fun j b c hj => ⟨hbox _ b c hj, fun h => hs.boxF _ b c hj (lv h)⟩) (fun i j b c c' hi hj li lj => hs.boxinj i j b c c' hi hj (lv li) (lv lj)) hBO hargs).mono ?_
    rintro en w' ⟨v, F', box1, r, b1, hΦ, rfl, hkeep, hold, hout, hext, hl1, hin, hF1, hj1, hr1, hrep⟩
    have hle : bx.length ≤ b1.length := by
      rcases Nat.lt_or_ge b1.length bx.length with h | h
      · have h1 : b1.length < g.box.length := by omega
        have := getElem?_lt (hext b1.length _ (List.getElem?_eq_getElem h1))
        omega
      · exact h
    obtain ⟨hml, hm⟩ := merge_get bx b0 b1 hlen0 hle
    -- a block that is not lent stays
    have same : ∀ b, b < w.heap.size → (∀ (i c : Nat), live b0 i → g.box[i]? ≠ some (.blk b c)) → w'.heap[b]? = w.heap[b]? := fun b hb hn => hkeep.block b hb (fun j c hj => by
      obtain ⟨h1, h2, _⟩ := mask_get _ _ _ _ _ hj
      exact hn j c h2 h1)
    have hFl : ∀ (b i c : Nat), live b0 i → g.box[i]? = some (.blk b c) → g.F b = 0 := fun b i c hi hj => hs.boxF _ b c hj (lv hi)
    have L : Later w g.F g.tok f w' F' g.tok f := by
      refine ⟨fun b i hi => ?_, fun b => ?_, fun k t s m hk => ⟨m, hk, Nat.le_refl _, fun _ => ⟨rfl, fun b hb => ?_⟩⟩⟩
      · have hlt : b < w.heap.size := by
          rcases Nat.lt_or_ge b w.heap.size with h | h
          · exact h
          · rw [hs.out b h] at hi; omega
        exact World.cell?_of_block (w := w) (same b hlt (fun i' c hi' hj => by have := hFl b i' c hi' hj; omega))
      · rcases Nat.lt_or_ge b w.heap.size with h | h
        · rw [hold b h]; exact Nat.le_refl _
        · rw [hs.out b h]; exact Nat.zero_le _
      · have hbw := htok k b hb
        exact ⟨same b hbw (fun i c hi hj => hs.tokbox k b _ c hb hj (lv hi)), hold b hbw⟩
    -- which boxes are meant
    have split : ∀ j : Nat, j < b1.length → (j < bx.length ∧ b0[j]? = some .dead ∧ (merge bx b0 b1)[j]? = bx[j]?) ∨ ((g.box.length ≤ j ∨ live b0 j) ∧ (merge bx b0 b1)[j]? = b1[j]?) := fun j hj => by
      by_cases hd : b0[j]? = some .dead
      · exact .inl ⟨by have := getElem?_lt hd; omega, hd, (hm j).1 hd⟩
      · exact .inr ⟨.inr hd, (hm j).2 hd⟩
    have where1 : ∀ (j b c : Nat), (g.box.length ≤ j ∨ live b0 j) → box1[j]? = some (.blk b c) → (w.heap.size ≤ b ∨ ∃ i : Nat, live b0 i ∧ g.box[i]? = some (.blk b c)) ∧ b < w'.heap.size := fun j b c hj hd => by
      rcases Nat.lt_or_ge j g.box.length with h | h
      · have h0 := hext j _ (List.getElem?_eq_getElem h)
        rw [hd] at h0
        have h1 : g.box[j]? = some (.blk b c) := by rw [List.getElem?_eq_getElem h]; exact h0.symm
        rcases hj with hj | hj
        · omega
        · exact ⟨.inr ⟨j, hj, h1⟩, Nat.lt_of_lt_of_le (hbox j b c h1) hkeep.size⟩
      · exact hin j b c h hd
    have liveM : ∀ {j : Nat}, live (merge bx b0 b1) j → j < b1.length → (j < bx.length ∧ b0[j]? = some .dead ∧ live bx j) ∨ ((g.box.length ≤ j ∨ live b0 j) ∧ live b1 j) := fun {j} h hj => by
      rcases split j hj with ⟨h1, h2, h3⟩ | ⟨h1, h3⟩
      · exact .inl ⟨h1, h2, by unfold live at h ⊢; rw [← h3]; exact h⟩
      · exact .inr ⟨h1, by unfold live at h ⊢; rw [← h3]; exact h⟩
    have old1 : ∀ {j : Nat} {d : BId}, j < bx.length → box1[j]? = some d → g.box[j]? = some d := fun {j d} h hd => by
      have h' : j < g.box.length := by omega
      have h0 := hext j _ (List.getElem?_eq_getElem h')
      rw [hd] at h0; rw [List.getElem?_eq_getElem h']; exact h0.symm
    have S : Sim mo n w0 F0 box0 { g with F := F', box := box1 } ⟨e, merge bx b0 b1, f⟩ a w' := {
      defers := hs.defers, size := hs.size
      env := hs.env.later L hext
      below := ⟨fun m => Nat.le_trans (hs.below.drawn m) (hkeep.drawn m), hkeep.os.trans hs.below.os, hkeep.tape.trans hs.below.tape, hkeep.output.trans hs.below.output, Nat.le_trans hs.below.size hkeep.size, fun b hb hnb => by
        rw [same b (Nat.lt_of_lt_of_le hb hs.below.size) (fun i c hi hj => ?_)]
        · exact hs.below.block b hb hnb
        · rcases (hs.boxin _ b c hj).1 with h | ⟨i', h⟩
          · omega
          · exact hnb i' c h⟩
      old := fun b h => by simp only; rw [hold b (Nat.lt_of_lt_of_le h hs.below.size)]; exact hs.old b h
      out := hout
      boxlen := by simp only; rw [hml]; exact hl1
      boxpre := fun j d h => hext j d (hs.boxpre j d h)
      boxin := fun j b c h => by
        rcases split j (by have := getElem?_lt h; simp only at this; omega) with ⟨h1, _, _⟩ | ⟨h1, _⟩
        · have h2 := old1 h1 h
          exact ⟨(hs.boxin j b c h2).1, Nat.lt_of_lt_of_le (hbox j b c h2) hkeep.size⟩
        · obtain ⟨h2, h3⟩ := where1 j b c h1 h
          refine ⟨?_, h3⟩
          rcases h2 with h2 | ⟨i, _, h2⟩
          · exact .inl (Nat.le_trans hs.below.size h2)
          · exact (hs.boxin i b c h2).1
      boxF := fun j b c h hl => by
        rcases liveM hl (by have := getElem?_lt h; simp only at this; omega) with ⟨h1, _, h3⟩ | ⟨h1, h3⟩
        · have h2 := old1 h1 h
          simp only; rw [hold b (hbox j b c h2)]; exact hs.boxF j b c h2 h3
        · exact hF1 j b c h h3 h1
      boxrep := fun j d y hd hy => by
        rcases split j (by have := getElem?_lt hd; simp only at this; omega) with ⟨h1, h2, h3⟩ | ⟨h1, h3⟩
        · have hd' := old1 h1 hd
          have hy' : bx[j]? = some y := by rw [← h3]; exact hy
          refine (hs.boxrep j d y hd' hy').later L hext (fun b c he hnd => same b (hbox j b c (he ▸ hd')) (fun i c' hi hj' => ?_))
          have := hs.boxinj j i b c c' (he ▸ hd') hj' (fun h => hnd (by rw [hy'] at h; exact Option.some.inj h)) (lv hi)
          subst this; exact hi h2
        · exact (hr1 j d y hd (by rw [← h3]; exact hy) h1).up
      boxinj := fun i j b c c' hi hj li lj => by
        have mixed : ∀ {i j c c' : Nat}, i < bx.length → b0[i]? = some .dead → live bx i → box1[i]? = some (.blk b c) → (g.box.length ≤ j ∨ live b0 j) → box1[j]? = some (.blk b c') → False := fun {i j c c'} h1 h2 h3 hi h4 hj => by
          have hi' := old1 h1 hi
          rcases (where1 j b c' h4 hj).1 with h | ⟨i', h5, h6⟩
          · have := hbox i b c hi'; omega
          · have := hs.boxinj i i' b c c' hi' h6 h3 (lv h5); subst this; exact h5 h2
        rcases liveM li (by have := getElem?_lt hi; simp only at this; omega) with ⟨i1, i2, i3⟩ | ⟨i1, i3⟩ <;> rcases liveM lj (by have := getElem?_lt hj; simp only at this; omega) with ⟨j1, j2, j3⟩ | ⟨j1, j3⟩
        · exact hs.boxinj i j b c c' (old1 i1 hi) (old1 j1 hj) i3 j3
        · exact (mixed i1 i2 i3 hi j1 hj).elim
        · exact (mixed j1 j2 j3 hj i1 hi).elim
        · exact hj1 i j b c c' hi hj i3 j3 i1 j1
      toklen := hs.toklen
      tokin := fun k b h => ⟨(hs.tokin k b h).1, Nat.lt_of_lt_of_le (hs.tokin k b h).2 hkeep.size⟩
      tokbox := fun k b j c hk' hj hl => by
        rcases liveM hl (by have := getElem?_lt hj; simp only at this; omega) with ⟨h1, h2, h3⟩ | ⟨h1, h3⟩
        · exact hs.tokbox k b j c hk' (old1 h1 hj) h3
        · rcases (where1 j b c h1 hj).1 with h | ⟨i, h5, h6⟩
          · have := htok k b hk'; omega
          · exact hs.tokbox k b i c hk' h6 (lv h5)
      tokinj := hs.tokinj }
    exact hnext _ _ _ _ _ _ S (.rep _ _ hrep.up) (hk r b1 hΦ) (fun h0 => by rw [h0] at hl; cases hl)

theorem leads_calls (hs : Sim mo n w0 F0 box0 g ⟨e, bx, f⟩ a w) {fid : FuncId} {k : AV → List ABox → Fr → Prop} {vs : List AV} {us : List Value} (hvs : Both (RepT w0.heap.size w g.F g.tok f g.box) vs us)
    (hrun : okFn P fid = true → (execOp a.eval o).run P w = .ok (.enter fid us.toArray) w) {lend : Bool} (h : ACall (ACon mo P) lend fid vs bx f k) : Leads mo P n w0 F0 box0 e a o w k :=
  fun next Q hnext => leads_callsB hs hvs hrun h next Q fun g' bx' f' x v w' S hx hk _ => hnext g' bx' f' x v w' S hx hk

theorem leads_clo (hs : Sim mo n w0 F0 box0 g ⟨e, bx, f⟩ a w) {fid : FuncId} {first caps : Array Operand} {k : AV → List ABox → Fr → Prop} (ho : o.op = .makeFunc (.func fid) first caps) {xs ys : List AV}
    (hxs : Both (RepT w0.heap.size w g.F g.tok f g.box) xs (first.toList.map a.eval)) (hys : Both (RepT w0.heap.size w g.F g.tok f g.box) ys (caps.toList.map a.eval)) (hk : k (.clo fid xs ys) bx f ∧ noCond xs = true ∧ noCond ys = true) : Leads mo P n w0 F0 box0 e a o w k := by
  have get : ∀ {xs : List AV} {l : Array Operand}, Both (RepT w0.heap.size w g.F g.tok f g.box) xs (l.toList.map a.eval) → noCond xs = true → xs.length = (l.map a.eval).size ∧ ∀ (i : Nat) c, xs[i]? = some c → Rep w0.heap.size w g.F g.tok f g.box c ((l.map a.eval).getD i undef) := fun {xs l} h hn =>
    ⟨by have := h.1; simpa using this, fun i c hc => by
      have hi : i < l.size := by have := getElem?_lt hc; have := h.1; simp at this; omega
      have h1 := h.2 i c ((l.map a.eval).getD i undef) hc (by simp [Array.getD, hi])
      refine h1.plain (fun g y he => ?_)
      have := List.all_eq_true.1 hn c (List.mem_of_getElem? hc)
      rw [he] at this; cases this⟩
  obtain ⟨l1, r1⟩ := get hxs hk.2.1
  obtain ⟨l2, r2⟩ := get hys hk.2.2
  exact leads_val (v := .func (.func fid) (first.map a.eval) (caps.map a.eval)) (by simp [execOp, ho, Instr.makeFunc]) hs (.rep _ _ (.clo fid xs ys _ _ l1 l2 r1 r2)) hk.1

theorem list_two {α : Type} {l : Array α} {d : α} (h : l.size = 2) (f0 : α) (h0 : l.toList.getD 0 d = f0) (f1 : α) (h1 : l.toList.getD 1 d = f1) : l = #[f0, f1] := by
  rcases l with ⟨l⟩
  match l, h with
  | [x, y], _ => simp at h0 h1; rw [h0, h1]

/-- Every operation does what the evaluator says. -/
theorem aOp_sound (ops : List Oper) (hs : Sim mo n w0 F0 box0 g ⟨e, bx, f⟩ a w) {k : AV → List ABox → Fr → Prop} (h : aOp (ACon mo P) (cOp P ops o) e bx f k) : Leads mo P n w0 F0 box0 e a o w k := by
  have rest : ∀ {op}, aOp (ACon mo P) op e bx f k = aVal op true e bx (fun v => k v bx f) → cOp P ops o = op → Leads mo P n w0 F0 box0 e a o w k := fun {op} he hop =>
    leads_does hs (aVal_sound ops hs.env hs.boxrep (by rw [← hop] at he; rw [← he]; exact h))
  cases hop : o.op with
  | move x =>
    have hc : cOp P ops o = .mv x := by simp [cOp, hop]
    rw [hc] at h
    exact leads_val (by simp [execOp, hop]) hs (ev_sound hs.env x) h
  | assign x =>
    have hc : cOp P ops o = .mv x := by simp [cOp, hop]
    rw [hc] at h
    exact leads_val (by simp [execOp, hop]) hs (ev_sound hs.env x) h
  | box t x =>
    have hc : cOp P ops o = .box x := by simp [cOp, hop]
    rw [hc] at h
    exact leads_box hs hop h
  | alloc t =>
    unfold cOp at h
    simp only [hop] at h
    split at h
    · rename_i z hz
      split at h
      · rename_i h1; exact leads_alloc hs hop hz h1 h
      · exact h.no
    · exact h.no
  | makeSlice t l c =>
    unfold cOp at h
    simp only [hop] at h
    split at h
    · rename_i hh
      simp only [Bool.and_eq_true] at hh
      exact leads_make hs hop hh.1.1 hh.1.2 hh.2 h
    · exact h.no
  | build t ps =>
    unfold cOp at h
    simp only [hop] at h
    split at h
    · rename_i places z hp
      split at h
      · rename_i hh
        rw [Bool.and_eq_true] at hh
        exact leads_build hs hop hp hh.1 hh.2 h
      · exact h.no
    · exact h.no
  | buildSlice t m ps =>
    unfold cOp at h
    simp only [hop] at h
    split at h
    · rename_i hh
      simp only [Bool.and_eq_true, decide_eq_true_eq, beq_iff_eq] at hh
      exact leads_bslice hs hop hh.1.1 hh.1.2 hh.2 h
    · exact h.no
  | store t p x =>
    unfold cOp at h
    simp only [hop] at h
    split at h
    · rename_i hok; exact leads_store hs hop hok h
    · exact h.no
  | range t x =>
    unfold cOp at h
    simp only [hop] at h
    split at h
    · rename_i ht; exact leads_range hs hop ht h
    · exact h.no
  | next x s =>
    unfold cOp at h
    simp only [hop] at h
    split at h
    · rename_i hh; rw [hh] at hop; exact leads_next hs hop h
    · exact h.no
  | makeFunc fn first caps =>
    unfold cOp at h
    simp only [hop] at h
    split at h
    · rename_i fid
      split at h
      · split at h
        · exact h.no
        · obtain ⟨xs, h, hxs⟩ := evs_sound hs.env h
          obtain ⟨ys, h, hys⟩ := evs_sound hs.env h
          obtain ⟨⟨hn1, hn2⟩, h⟩ := h
          exact leads_clo hs hop hxs hys ⟨h, hn1, hn2⟩
      · exact h.no
    · exact h.no
  | call c =>
    by_cases hb : ∃ fid, c.callee = .value (.func fid)
    · obtain ⟨fid, hc⟩ := hb
      unfold cOp at h
      simp only [hop, hc] at h
      split at h
      · rename_i fn hf
        split at h
        · exact h.no
        · rename_i hn
          simp only [aOp] at h
          obtain ⟨vs, h, hvs⟩ := evs_sound hs.env h
          exact leads_calls hs hvs (fun _ => by rw [run_call hop hc hf (Bool.eq_false_iff.2 hn) w]; congr 2; apply Array.ext'; simp) h
      · exact h.no
    by_cases hb2 : ∃ t, c.callee = .value (.tmp t)
    · obtain ⟨t, hc⟩ := hb2
      unfold cOp at h
      simp only [hop, hc, aOp] at h
      obtain ⟨xv, h1, hx⟩ := evG_sound hs.env h
      obtain ⟨vs, h2, hvs⟩ := evs_sound hs.env h1
      split at h2
      · rename_i fid xs ys
        generalize hv : a.eval (.tmp t) = v at hx
        have hx := hx.clo_inv
        cases hx with
        | clo _ _ _ vf vc hl1 hl2 hr1 hr2 =>
          have both : ∀ {xs : List AV} {vf : Array Value}, xs.length = vf.size → (∀ (i : Nat) c, xs[i]? = some c → Rep w0.heap.size w g.F g.tok f g.box c (vf.getD i undef)) → Both (RepT w0.heap.size w g.F g.tok f g.box) xs vf.toList := fun {xs vf} hl hr =>
            ⟨by simpa using hl, fun i x u hx hu => by
              have hu' : vf[i]? = some u := by simpa using hu
              have hi := (Array.getElem?_eq_some_iff.1 hu').1
              have e1 : vf.getD i undef = u := by simp [Array.getD, hi, (Array.getElem?_eq_some_iff.1 hu').2]
              exact .rep _ _ (e1 ▸ hr i x hx)⟩
          have app : ∀ {xs ys : List AV} {us ws : List Value}, Both (RepT w0.heap.size w g.F g.tok f g.box) xs us → Both (RepT w0.heap.size w g.F g.tok f g.box) ys ws → Both (RepT w0.heap.size w g.F g.tok f g.box) (xs ++ ys) (us ++ ws) := fun {xs ys us ws} h1 h2 =>
            ⟨by simp [h1.1, h2.1], fun i x u hx hu => by
              rw [List.getElem?_append] at hx hu
              rw [← h1.1] at hu
              split at hx
              · rename_i hlt; rw [if_pos hlt] at hu; exact h1.2 i x u hx hu
              · rename_i hlt; rw [if_neg hlt] at hu; exact h2.2 _ x u hx hu⟩
          exact leads_calls hs (app (app (both hl1 hr1) hvs) (both hl2 hr2)) (fun hok => by rw [run_callv hop hc hv hok w]; congr 2; apply Array.ext'; simp) h2
      · exact h2.no
    by_cases ha : c.callee = .builtin .append
    · unfold cOp at h
      simp only [hop, ha] at h
      split at h
      · rename_i hh
        simp only [Bool.and_eq_true, beq_iff_eq] at hh
        refine leads_append (t := c.argTypes.getD 0 0) hs (x := arg c.args.toList 0) (y := arg c.args.toList 1) ?_ hh.1.1 h
        rw [hop]
        congr 1
        rcases c with ⟨cal, args, tys⟩
        simp only at ha hh ⊢
        rw [ha]
        congr 1
        · exact list_two hh.2 _ rfl _ rfl
        · apply Array.ext'; exact hh.1.2
      · exact h.no
    · -- len
      refine rest (op := cOp P ops o) ?_ rfl
      unfold cOp
      simp only [hop]
      split
      · rename_i b hcb
        split
        · split
          · split <;> rfl
          · split <;> rfl
          · rfl
        · exact absurd hcb ha
        · rfl
      · rename_i v hcv
        split
        · rename_i fid; exact absurd ⟨fid, hcv⟩ hb
        · rename_i t; exact absurd ⟨t, hcv⟩ hb2
        · rfl
      · rfl
  | _ =>
    refine rest (op := cOp P ops o) ?_ rfl
    unfold cOp
    simp only [hop]
    repeat' split
    all_goals rfl
end
end Abs
end Go.Proofs.Ytamcaplpgmloiaa
