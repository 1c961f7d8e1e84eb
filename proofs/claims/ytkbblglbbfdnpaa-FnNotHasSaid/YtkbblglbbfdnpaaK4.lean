/-
  Calls; each operation; a region.
  Regions: in the order of the text, and in any order.
  Whole code: what the evaluator shows of it.
  Functions: from their code to what a call of them hands back.
-/
import Derived.Test.YtkbblglbbfdnpaaK3
import Derived.OrdersHeld
import Derived.StillTail
import Derived.Deep.LoopGhost
namespace Go.Proofs.Ytkbblglbbfdnpaa
namespace Abs
variable {mo : Bool} {U : List (AV × Value)}
open Go.RowKit

section
variable {P : Program} {n : Nat} {w0 : World} {F0 : Nat → Nat} {box0 : List BId} {g : G} {e : Env} {bx : List ABox} {f : Fr} {a : Act} {w : World} {o : Oper}

theorem okFn_inv {fid : Nat} (h : okFn P fid = true) : ∃ fn, P.funcs[fid]? = some fn ∧ (fn.name == "runtime.NumGoroutine" || fn.body.isNone) = false := by
  unfold okFn at h
  split at h
  · rename_i fn hf
    refine ⟨fn, hf, ?_⟩
    simp only [Bool.and_eq_true, Bool.not_eq_true'] at h
    rw [h.1, Bool.false_or]
    cases hb : fn.body with
    | none => rw [hb] at h; simp at h
    | some b => rfl
  · cases h

theorem run_call {c : Go.Call} {fid : FuncId} {fn : Func} (ho : o.op = .call c) (hc : c.callee = .value (.func fid)) (hf : P.funcs[fid]? = some fn) (hn : (fn.name == "runtime.NumGoroutine" || fn.body.isNone) = false) (w : World) :
    (execOp a.eval o).run P w = .ok (.enter fid (c.args.map a.eval)) w := by
  simp only [Bool.or_eq_false_iff] at hn
  have h1 : ¬ fn.name = "runtime.NumGoroutine" := by simpa using hn.1
  have h2 : ¬ fn.body = none := fun h => by rw [h] at hn; simp at hn
  simp [execOp, ho, resolve, hc, Act.eval, Deferred.ofValue, invoke, callFunc, hf, h1, h2]

theorem run_callv {c : Go.Call} {t : Nat} {fid : FuncId} {vf vc : Array Value} (ho : o.op = .call c) (hc : c.callee = .value (.tmp t)) (hv : a.eval (.tmp t) = .func (.func fid) vf vc) (hk : okFn P fid = true) (w : World) :
    (execOp a.eval o).run P w = .ok (.enter fid (vf ++ c.args.map a.eval ++ vc)) w := by
  obtain ⟨fn, hf, hn⟩ := okFn_inv hk
  simp only [Bool.or_eq_false_iff] at hn
  have h1 : ¬ fn.name = "runtime.NumGoroutine" := by simpa using hn.1
  have h2 : ¬ fn.body = none := fun h => by rw [h] at hn; simp at hn
  simp [execOp, ho, resolve, hc, hv, Deferred.ofValue, invoke, callFunc, hf, h1, h2]

theorem both_sees {S : AV → AV → Prop} {R : AV → Value → Prop} {R' : AV → Value → Prop} {vs ys : List AV} {us : List Value} (h : Both R vs us) (hv : SeesL S vs ys) (hS : ∀ x y v, S x y → R x v → R' y v) : Both R' ys us :=
  ⟨by rw [← hv.length]; exact h.1, fun i y v hy hu => by
    obtain ⟨x, hx, hs⟩ := hv.get' hy
    exact hS x y v hs (h.2 i x v hx hu)⟩

/-- all of the memory that is there -/
def bigF (w : World) (F : Nat → Nat) (b : Nat) : Nat := max (F b) (match w.heap[b]? with | some (.cells c _ _) => c.size | _ => 0)
theorem bigF_le (w : World) (F : Nat → Nat) (b : Nat) : F b ≤ bigF w F b := Nat.le_max_left _ _
theorem bigF_cells {w : World} {F : Nat → Nat} (b : Nat) (c : Array Value) (t : TypeId) (z : Nat × Nat) (h : w.heap[b]? = some (.cells c t z)) : c.size ≤ bigF w F b := by
  unfold bigF; rw [h]; exact Nat.le_max_right _ _
theorem bigF_out {w : World} {F : Nat → Nat} {b : Nat} (hb : w.heap.size ≤ b) (h : F b = 0) : bigF w F b = 0 := by
  unfold bigF; rw [h, Array.getElem?_eq_none hb]; rfl

theorem scal_rep {x : AV} (h : isScal x = true) : ∃ v, ∀ {B : Nat} {w : World} {F : Nat → Nat} {tok : List (Option Nat)} {fr : Fr} {box : List BId}, Rep B w F tok fr box x v ∧ ∀ u, Rep B w F tok fr box x u → u = v := by
  cases x with
  | val v => exact ⟨v, .val v, fun u hu => hu.val_inv⟩
  | str s => exact ⟨mkS s, .str s, fun u hu => by cases hu; rfl⟩
  | _ => cases h

/-- a plain result stands for one value, wherever -/
theorem scalR_rep {x : AV} (h : isScalR x = true) : ∃ v, ∀ {B : Nat} {w : World} {F : Nat → Nat} {tok : List (Option Nat)} {fr : Fr} {box : List BId}, Rep B w F tok fr box x v ∧ ∀ u, Rep B w F tok fr box x u → u = v := by
  by_cases ht : ∃ vs, x = .tup vs
  · obtain ⟨vs, rfl⟩ := ht
    have hall : ∀ (i : Nat) c, vs[i]? = some c → isScal c = true := fun i c hc => List.all_eq_true.1 h c (List.mem_of_getElem? hc)
    have key : ∀ vs : List AV, (∀ c ∈ vs, isScal c = true) → ∃ us : List Value, us.length = vs.length ∧ ∀ (i : Nat) c u, vs[i]? = some c → us[i]? = some u →
        ∀ {B : Nat} {w : World} {F : Nat → Nat} {tok : List (Option Nat)} {fr : Fr} {box : List BId}, Rep B w F tok fr box c u ∧ ∀ u', Rep B w F tok fr box c u' → u' = u := by
      intro vs
      induction vs with
      | nil => exact fun _ => ⟨[], rfl, fun i c u h => by simp at h⟩
      | cons c vs ih =>
        intro hs
        obtain ⟨v, hv⟩ := scal_rep (hs c (by simp))
        obtain ⟨us, h1, h2⟩ := ih (fun c hc => hs c (by simp [hc]))
        refine ⟨v :: us, by simp [h1], fun i c' u hc hu => ?_⟩
        cases i with
        | zero => simp at hc hu; subst hc; subst hu; exact hv
        | succ i => exact h2 i c' u (by simpa using hc) (by simpa using hu)
    obtain ⟨us, h1, h2⟩ := key vs (fun c hc => by obtain ⟨i, hi⟩ := List.getElem?_of_mem hc; exact hall i c hi)
    refine ⟨.tuple us.toArray, fun {B w F tok fr box} => ⟨.tup _ _ (by simp [h1]) (fun i c hc => ?_), fun u hu => ?_⟩⟩
    · have hi : i < us.length := by have := getElem?_lt hc; omega
      have e1 : us.toArray.getD i undef = us[i] := by simp [Array.getD, hi]
      rw [e1]; exact (h2 i c _ hc (List.getElem?_eq_getElem hi)).1
    · cases hu with
      | tup _ ws hl hr =>
        congr 1
        apply Array.ext
        · simp [← hl, h1]
        · intro i hi1 hi2
          have hi : i < vs.length := by omega
          have hi' : i < us.length := by omega
          have := (h2 i _ _ (List.getElem?_eq_getElem hi) (List.getElem?_eq_getElem hi') (B := B) (w := w) (F := F) (tok := tok) (fr := fr) (box := box)).2 _ (hr i _ (List.getElem?_eq_getElem hi))
          simpa [Array.getD, hi1] using this
  · refine scal_rep ?_
    cases x <;> first | exact absurd ⟨_, rfl⟩ ht | exact h

/-- more of what is read -/
theorem Sim.moreF (hs : Sim mo n w0 F0 box0 U g ⟨e, bx, f⟩ a w) (F' : Nat → Nat) (B : Nat) (hB : w0.heap.size ≤ B) (hb : ∀ (j b c : Nat), g.box[j]? = some (.blk b c) → b < B) (ht : ∀ (k b : Nat), g.tok[k]? = some (some b) → b < B)
    (h1 : ∀ b, b < B → F' b = g.F b) (h2 : ∀ b, g.F b ≤ F' b) (h3 : ∀ b, w.heap.size ≤ b → F' b = 0) : Sim mo n w0 F0 box0 U { g with F := F' } ⟨e, bx, f⟩ a w := by
  have L : Later w g.F g.tok f w F' g.tok f := ⟨fun _ _ _ => rfl, h2, fun k t s m hk => ⟨m, hk, Nat.le_refl _, fun _ => ⟨rfl, fun b hb' => ⟨rfl, h1 b (ht k b hb')⟩⟩⟩⟩
  exact { hs with
    env := hs.env.later L (fun _ _ h => h)
    held := hs.held.later L (fun _ _ h => h)
    old := fun b hb' => by simp only; rw [h1 b (by omega)]; exact hs.old b hb'
    out := h3
    boxF := fun j b c hj hl => by simp only; rw [h1 b (hb j b c hj)]; exact hs.boxF j b c hj hl
    boxrep := hs.boxrep.later L (fun _ _ _ _ _ => rfl) }

mutual
theorem notDead : ∀ (x : Tr) (m i : Nat), (gb x m)[i]? ≠ some .dead
  | .v _, _, _ => by simp [gb]
  | .s _, _, _ => by simp [gb]
  | .l t sz xs, m, i => by
    rw [gb]
    cases i with
    | zero => simp
    | succ i => rw [List.getElem?_cons_succ]; exact notDeadLL xs (m + 1) i
  | .a fs, m, i => by rw [gb]; exact notDeadL fs m i
  | .p fs, m, i => by rw [gb]; exact notDeadL fs m i
theorem notDeadL : ∀ (x : List Tr) (m i : Nat), (gbL x m)[i]? ≠ some .dead
  | [], _, _ => by simp [gbL]
  | x :: xs, m, i => by
    rw [gbL, List.getElem?_append]
    split
    · exact notDead x m i
    · exact notDeadL xs _ _
theorem notDeadLL : ∀ (x : List (List Tr)) (m i : Nat), (gbLL x m)[i]? ≠ some .dead
  | [], _, _ => by simp [gbLL]
  | x :: xs, m, i => by
    rw [gbLL, List.getElem?_append]
    split
    · exact notDeadL x m i
    · exact notDeadLL xs _ _
end

theorem noTkL_mem : ∀ {cs : List AV} {c : AV}, noTkL cs = true → c ∈ cs → noTk c = true
  | d :: cs, c, h, hc => by
    rw [noTkL, Bool.and_eq_true] at h
    rcases List.mem_cons.1 hc with rfl | hc
    · exact h.1
    · exact noTkL_mem h.2 hc
theorem noTkLL_mem : ∀ {xs : List (List AV)} {e : List AV}, noTkLL xs = true → e ∈ xs → noTkL e = true
  | d :: xs, e, h, he => by
    rw [noTkLL, Bool.and_eq_true] at h
    rcases List.mem_cons.1 he with rfl | he
    · exact h.1
    · exact noTkLL_mem h.2 he
theorem Rep.noTk {B B' : Nat} {w : World} {F : Nat → Nat} {tok : List (Option Nat)} {fr : Fr} {box : List BId} {x : AV} {v : Value} (h : Rep B w F tok fr box x v) (hn : Abs.noTk x = true) : Rep B' w F [] [] box x v := by
  induction h with
  | any v => exact .any v
  | val v => exact .val v
  | str s => exact .str s
  | list o xs a cap sz b off vs hcap ha hsz hF hc hr ho ih =>
    cases o with
    | some k => rw [Abs.noTk] at hn; cases hn
    | none =>
      rw [Abs.noTk] at hn
      exact .list none xs a cap sz b off vs hcap ha hsz hF hc (fun i e j c hi hj => ih i e j c hi hj (noTkL_mem (noTkLL_mem hn (List.mem_of_getElem? hi)) (List.mem_of_getElem? hj))) (fun k hk => by cases hk)
  | agg cs vs h h1 _ ih => rw [Abs.noTk] at hn; exact .agg cs vs h h1 (fun i c hc => ih i c hc (noTkL_mem hn (List.mem_of_getElem? hc)))
  | tup cs vs h _ ih => rw [Abs.noTk] at hn; exact .tup cs vs h (fun i c hc => ih i c hc (noTkL_mem hn (List.mem_of_getElem? hc)))
  | rptr cs b off vs hF hc hr ih => rw [Abs.noTk] at hn; exact .rptr cs b off vs hF hc (fun j c hj => ih j c hj (noTkL_mem hn (List.mem_of_getElem? hj)))
  | bptr j off b cap h => exact .bptr j off b cap h
  | bsl j l b cap h hl => exact .bsl j l b cap h hl
  | bnil j h => exact .bnil j h
  | bmap j b cap h => exact .bmap j b cap h
  | tag x v _ h1 ih => rw [Abs.noTk] at hn; exact .tag x v (ih hn) h1
  | clo f first caps vf vc h1 h2 _ _ ih1 ih2 =>
    rw [Abs.noTk, Bool.and_eq_true] at hn
    exact .clo f first caps vf vc h1 h2 (fun i c hc => ih1 i c hc (noTkL_mem hn.1 (List.mem_of_getElem? hc))) (fun i c hc => ih2 i c hc (noTkL_mem hn.2 (List.mem_of_getElem? hc)))
/-- what is read without slices of one's own reads so in any company -/
theorem Rep.up {B B' : Nat} {w : World} {F : Nat → Nat} {tok : List (Option Nat)} {fr : Fr} {box : List BId} {x : AV} {v : Value} (h : Rep B w F [] [] box x v) : Rep B' w F tok fr box x v := by
  induction h with
  | any v => exact .any v
  | val v => exact .val v
  | str s => exact .str s
  | list o xs a cap sz b off vs hcap ha hsz hF hc hr ho ih =>
    exact .list o xs a cap sz b off vs hcap ha hsz hF hc ih (fun k hk => by obtain ⟨t, s, n, hf, _⟩ := ho k hk; simp at hf)
  | agg cs vs h h1 _ ih => exact .agg cs vs h h1 ih
  | tup cs vs h _ ih => exact .tup cs vs h ih
  | rptr cs b off vs hF hc hr ih => exact .rptr cs b off vs hF hc ih
  | bptr j off b cap h => exact .bptr j off b cap h
  | bsl j l b cap h hl => exact .bsl j l b cap h hl
  | bnil j h => exact .bnil j h
  | bmap j b cap h => exact .bmap j b cap h
  | tag x v _ h1 ih => exact .tag x v ih h1
  | clo f first caps vf vc h1 h2 _ _ ih1 ih2 => exact .clo f first caps vf vc h1 h2 ih1 ih2
theorem BoxOk.up {B B' : Nat} {w : World} {F : Nat → Nat} {tok : List (Option Nat)} {fr : Fr} {box : List BId} {d : BId} {x : ABox} (h : BoxOk B w F [] [] box d x) : BoxOk B' w F tok fr box d x := by
  cases d with
  | blk b c =>
    cases x with
    | cells k cs =>
      obtain ⟨c, t, h1, h2, h3, h4⟩ := h
      exact ⟨c, t, h1, h2, fun i x hx => ⟨(h3 i x hx).1.up, (h3 i x hx).2⟩, h4⟩
    | iter s p => exact h
    | map m => exact h
    | vmap kk vk m => exact h
    | dead => exact trivial
  | nil =>
    cases x with
    | cells k cs => exact h
    | iter s p => exact h
    | map m => exact h
    | vmap kk vk m => exact h
    | dead => exact trivial
theorem BoxOk.noTk {B B' : Nat} {w : World} {F : Nat → Nat} {tok : List (Option Nat)} {fr : Fr} {box : List BId} {d : BId} {k : RK} {cs : List AV} (h : BoxOk B w F tok fr box d (.cells k cs)) (hn : ∀ c ∈ cs, Abs.noTk c = true) : BoxOk B' w F [] [] box d (.cells k cs) := by
  cases d with
  | blk b c =>
    obtain ⟨c, t, h1, h2, h3, h4⟩ := h
    exact ⟨c, t, h1, h2, fun i x hx => ⟨(h3 i x hx).1.noTk (hn x (List.mem_of_getElem? hx)), (h3 i x hx).2⟩, h4⟩
  | nil => exact h
theorem Lends.len {b b0 : List ABox} (h : Lends b b0) : b0.length = b.length := by induction h <;> simp_all
theorem Lends.get {b b0 : List ABox} (h : Lends b b0) : ∀ (i : Nat) x, b0[i]? = some x → x = .dead ∨ (b[i]? = some x ∧ ((∃ k cs, x = .cells k cs ∧ ∀ c ∈ cs, noTk c = true) ∨ (∃ m, x = .map m) ∨ ∃ kk vk m, x = .vmap kk vk m)) := by
  induction h with
  | nil => intro i x hx; simp at hx
  | hide y _ ih =>
    intro i x hx
    cases i with
    | zero => simp at hx; exact .inl hx.symm
    | succ i => exact ih i x (by simpa using hx)
  | lend k cs hc _ ih =>
    intro i x hx
    cases i with
    | zero => simp at hx; exact .inr ⟨by simpa using hx, .inl ⟨k, cs, hx.symm, hc⟩⟩
    | succ i => exact ih i x (by simpa using hx)
  | map m _ ih =>
    intro i x hx
    cases i with
    | zero => simp at hx; exact .inr ⟨by simpa using hx, .inr (.inl ⟨m, hx.symm⟩)⟩
    | succ i => exact ih i x (by simpa using hx)
  | vmap kk vk m _ ih =>
    intro i x hx
    cases i with
    | zero => simp at hx; exact .inr ⟨by simpa using hx, .inr (.inr ⟨kk, vk, m, hx.symm⟩)⟩
    | succ i => exact ih i x (by simpa using hx)
theorem merge_get : ∀ (b b0 b1 : List ABox), b0.length = b.length → b.length ≤ b1.length → (merge b b0 b1).length = b1.length ∧
    ∀ i : Nat, (b0[i]? = some .dead → (merge b b0 b1)[i]? = b[i]?) ∧ (b0[i]? ≠ some .dead → (merge b b0 b1)[i]? = b1[i]?)
  | [], [], b1, _, _ => ⟨by cases b1 <;> rfl, fun i => ⟨by simp, fun _ => by cases b1 <;> rfl⟩⟩
  | [], _ :: _, _, h, _ => by simp at h
  | _ :: _, [], _, h, _ => by simp at h
  | _ :: _, _ :: _, [], _, h => by simp at h
  | x :: b, y :: b0, z :: b1, h, h' => by
    obtain ⟨h1, h2⟩ := merge_get b b0 b1 (by simpa using h) (by simpa using h')
    cases y with
    | dead =>
      refine ⟨by simp [merge, h1], fun i => ?_⟩
      cases i with
      | zero => simp [merge]
      | succ i => simpa [merge] using h2 i
    | cells k cs =>
      refine ⟨by simp [merge, h1], fun i => ?_⟩
      cases i with
      | zero => simp [merge]
      | succ i => simpa [merge] using h2 i
    | iter s p =>
      refine ⟨by simp [merge, h1], fun i => ?_⟩
      cases i with
      | zero => simp [merge]
      | succ i => simpa [merge] using h2 i
    | map m =>
      refine ⟨by simp [merge, h1], fun i => ?_⟩
      cases i with
      | zero => simp [merge]
      | succ i => simpa [merge] using h2 i
    | vmap kk vk m =>
      refine ⟨by simp [merge, h1], fun i => ?_⟩
      cases i with
      | zero => simp [merge]
      | succ i => simpa [merge] using h2 i
theorem mask_get : ∀ (b : List ABox) (box : List BId) (j : Nat) (q c : Nat), (mask b box)[j]? = some (.blk q c) → box[j]? = some (.blk q c) ∧ b[j]? ≠ some .dead ∧ j < b.length
  | [], _, j, q, c, h => by simp [mask] at h
  | x :: _, [], j, q, c, h => by cases x <;> simp [mask] at h
  | x :: b, d :: box, j, q, c, h => by
    cases x with
    | dead =>
      cases j with
      | zero => simp [mask] at h
      | succ j => simpa [mask] using mask_get b box j q c (by simpa [mask] using h)
    | cells k cs =>
      cases j with
      | zero => simp [mask] at h ⊢; exact h
      | succ j => simpa [mask] using mask_get b box j q c (by simpa [mask] using h)
    | iter s p =>
      cases j with
      | zero => simp [mask] at h ⊢; exact h
      | succ j => simpa [mask] using mask_get b box j q c (by simpa [mask] using h)
    | map m =>
      cases j with
      | zero => simp [mask] at h ⊢; exact h
      | succ j => simpa [mask] using mask_get b box j q c (by simpa [mask] using h)
    | vmap kk vk m =>
      cases j with
      | zero => simp [mask] at h ⊢; exact h
      | succ j => simpa [mask] using mask_get b box j q c (by simpa [mask] using h)

/-- what was handed in is read as before, what is new by its own tokens -/
theorem SubR.rep {B B' : Nat} {w : World} {F : Nat → Nat} {tok tok0 : List (Option Nat)} {fr fr0 : Fr} {us : List Value} {cs : List AV} (hB : B' ≤ B) (ht : tok0.length = fr0.length)
    (hcs : ∀ (i : Nat) c u, cs[i]? = some c → us[i]? = some u → ∀ box, Rep B' w F (tok0 ++ tok) (fr0 ++ fr) box c u) {x y : AV} (h : SubR fr0.length us cs x y) :
    ∀ {box : List BId} {v : Value}, Rep B w F tok fr box x v → ∀ box', Rep B' w F (tok0 ++ tok) (fr0 ++ fr) box' y v := by
  induction h with
  | tag i u y c hu hc =>
    intro box v h box'
    cases h with | tag _ _ _ _ => exact hcs i c _ hc hu box'
  | val u => intro box v h box'; cases h; exact .val _
  | str s => intro box v h box'; cases h; exact .str _
  | list o ys zs hl hs _ ih =>
    intro box v h box'
    cases h with
    | list _ _ a cap sz b off vs hcap ha hsz hF hc hr ho =>
      have hne : zs ≠ [] → ys ≠ [] := by rintro h rfl; exact h (List.eq_nil_of_length_eq_zero (by simpa using hl.symm))
      have pair : ∀ {i j : Nat} {z : List AV} {d : AV}, zs[i]? = some z → z[j]? = some d → ∃ y c, ys[i]? = some y ∧ y[j]? = some c := fun {i j z d} hi hj => by
        have h1 := getElem?_lt hi
        have h2 := getElem?_lt hj
        have e1 : ys[i]? = some (ys[i]'(by omega)) := List.getElem?_eq_getElem (by omega)
        have e2 := hs i _ _ e1 hi
        exact ⟨_, _, e1, List.getElem?_eq_getElem (by omega)⟩
      rw [hl]
      refine .list _ zs a cap sz b off vs (by omega) (fun h => ha (hne h)) (fun e he => ?_) (fun h => by rw [← hl]; exact hF (hne h)) (fun i e j c hi hj => ?_) (fun i e j c hi hj => ?_) (fun l hl' => ?_)
      · obtain ⟨i, hi⟩ := List.getElem?_of_mem he
        have h1 := getElem?_lt hi
        have e1 : ys[i]? = some (ys[i]'(by omega)) := List.getElem?_eq_getElem (by omega)
        rw [← hs i _ _ e1 hi]; exact hsz _ (List.mem_of_getElem? e1)
      · obtain ⟨y', c', g1, g2⟩ := pair hi hj
        exact hc i y' j c' g1 g2
      · obtain ⟨y', c', g1, g2⟩ := pair hi hj
        exact ih i j y' e c' c g1 hi g2 hj (hr i y' j c' g1 g2) []
      · obtain ⟨k, rfl, rfl⟩ := Option.map_eq_some_iff.1 hl'
        obtain ⟨t, s, n, hfr, hle, hown⟩ := ho k rfl
        have e1 : (tok0 ++ tok)[k + fr0.length]? = tok[k]? := by rw [List.getElem?_append_right (by omega), ht, Nat.add_sub_cancel]
        refine ⟨t, s, n, by rw [List.getElem?_append_right (by omega), Nat.add_sub_cancel]; exact hfr, by omega, fun he => ?_⟩
        obtain ⟨e2, ⟨vals, hv⟩, hk', hFb⟩ := hown (by omega)
        rw [← hl]
        refine ⟨e2, ⟨vals, hv.1, ?_⟩, by rw [e1]; exact hk', hFb⟩
        rcases hv.2 with hn | ⟨g, cap', cur, he', hBg, rest⟩
        · exact Or.inl hn
        · exact Or.inr ⟨g, cap', cur, he', Nat.le_trans hB hBg, rest⟩
  | agg xs ys hl _ ih =>
    intro box v h box'
    cases h with
    | agg _ vs h h1 hr =>
      refine .agg ys vs (by omega) h1 (fun i c hc => ?_)
      have e1 : xs[i]? = some (xs[i]'(by have := getElem?_lt hc; omega)) := List.getElem?_eq_getElem _
      exact ih i _ c e1 hc (hr i _ e1) box'
  | tup xs ys hl _ ih =>
    intro box v h box'
    cases h with
    | tup _ vs h hr =>
      refine .tup ys vs (by omega) (fun i c hc => ?_)
      have e1 : xs[i]? = some (xs[i]'(by have := getElem?_lt hc; omega)) := List.getElem?_eq_getElem _
      exact ih i _ c e1 hc (hr i _ e1) box'
theorem Both.split {α β : Type} {R : α → β → Prop} {xs ys : List α} {x : α} {vs : List β} (h : Both R (xs ++ x :: ys) vs) : ∃ al v bs, vs = al ++ v :: bs ∧ Both R xs al ∧ R x v ∧ Both R ys bs := by
  induction xs generalizing vs with
  | nil =>
    cases vs with
    | nil => simp [Both] at h
    | cons v vs => obtain ⟨h1, h2⟩ := Both.cons.1 h; exact ⟨[], v, vs, rfl, ⟨rfl, by simp⟩, h1, h2⟩
  | cons y xs ih =>
    cases vs with
    | nil => simp [Both] at h
    | cons v vs =>
      obtain ⟨h1, h2⟩ := Both.cons.1 h
      obtain ⟨al, u, bs, rfl, h3, h4, h5⟩ := ih h2
      exact ⟨v :: al, u, bs, rfl, Both.cons.2 ⟨h1, h3⟩, h4, h5⟩
theorem Both.join {α β : Type} {R : α → β → Prop} {xs ys : List α} {x : α} {al bs : List β} {v : β} (h1 : Both R xs al) (h : R x v) (h2 : Both R ys bs) : Both R (xs ++ x :: ys) (al ++ v :: bs) := by
  induction xs generalizing al with
  | nil =>
    have : al = [] := List.eq_nil_of_length_eq_zero (by have := h1.1; simpa using this.symm)
    subst this
    exact Both.cons.2 ⟨h, h2⟩
  | cons y xs ih =>
    cases al with
    | nil => simp [Both] at h1
    | cons a al =>
      obtain ⟨h3, h4⟩ := Both.cons.1 h1
      exact Both.cons.2 ⟨h3, ih h4⟩

theorem look_none : ∀ {e : Env} {i : Nat}, (∀ y, (i, y) ∉ e) → look e i = .any
  | [], _, _ => rfl
  | (j, x) :: e, i, h => by
    rw [look, if_neg (fun he => h x (by rw [he]; simp))]
    exact look_none fun y hy => h y (by simp [hy])
theorem inBL_of {m : Nat} : ∀ {cs : List AV}, (∀ c ∈ cs, inB m c) → inB.inBL m cs
  | [], _ => trivial
  | c :: cs, h => ⟨h c (by simp), inBL_of fun d hd => h d (by simp [hd])⟩
theorem Rep.isIn {B : Nat} {w : World} {F : Nat → Nat} {tok : List (Option Nat)} {fr : Fr} {box : List BId} {x : AV} {v : Value} (h : Rep B w F tok fr box x v) : Abs.inB box.length x := by
  induction h with
  | any v => exact trivial
  | val v => exact trivial
  | str s => exact trivial
  | list o xs a cap sz b off vs hcap ha hsz hF hc hr ho => exact trivial
  | agg cs vs h h1 _ ih => exact inBL_of fun c hc => by obtain ⟨i, hi⟩ := List.getElem?_of_mem hc; exact ih i c hi
  | tup cs vs h _ ih => exact inBL_of fun c hc => by obtain ⟨i, hi⟩ := List.getElem?_of_mem hc; exact ih i c hi
  | rptr cs b off vs hF hc hr => exact trivial
  | bptr j off b cap h => exact getElem?_lt h
  | bsl j l b cap h hn => exact getElem?_lt h
  | bnil j h => exact getElem?_lt h
  | bmap j b cap h => exact getElem?_lt h
  | tag x v _ h1 ih => exact ih
  | clo f first caps vf vc h1 h2 _ _ ih1 ih2 => exact ⟨inBL_of fun c hc => by obtain ⟨i, hi⟩ := List.getElem?_of_mem hc; exact ih1 i c hi, inBL_of fun c hc => by obtain ⟨i, hi⟩ := List.getElem?_of_mem hc; exact ih2 i c hi⟩
/-- A value speaks of boxes that are there, or of nothing. -/
theorem RepT.inB_or {B : Nat} {w : World} {F : Nat → Nat} {tok : List (Option Nat)} {fr : Fr} {box : List BId} {x : AV} {v : Value} (h : RepT B w F tok fr box x v) :
    (∀ B' w' F' tok' fr' box', RepT B' w' F' tok' fr' box' x v) ∨ Abs.inB box.length x := by
  induction h with
  | rep x v h => exact .inr h.isIn
  | cond g x v _ hn ih =>
    cases g with
    | false => exact .inl fun _ _ _ _ _ _ => .cond false x v (fun h => by cases h) hn
    | true =>
      rcases ih rfl with h | h
      · exact .inl fun _ _ _ _ _ _ => .cond true x v (fun _ => h _ _ _ _ _ _) (fun h => by cases h)
      · exact .inr h
theorem leads_callsB (hs : Sim mo n w0 F0 box0 U g ⟨e, bx, f⟩ a w) {fid : FuncId} {k : AV → List ABox → Fr → Prop} {vs : List AV} {us : List Value} (hvs : Both (RepT w0.heap.size w g.F g.tok f g.box) vs us)
    (hrun : okFn P fid = true → (execOp a.eval o).run P w = .ok (.enter fid us.toArray) w) {lend : Bool} (h : ACall (ACon mo P) lend fid vs bx f k) :
    ∀ (next : Act → World → Prop) (Q : Exit → Act → World → Prop),
      (∀ g' bx' f' x v w', Sim mo n w0 F0 box0 U g' ⟨e, bx', f'⟩ a w' → RepT w0.heap.size w' g'.F g'.tok f' g'.box x v → k x bx' f' → (lend = false → Bel mo w.heap.size w w' ∧ TokNew w g.tok g'.tok) → next (a.put o.dst v) w') → o.wp P a w next Q := by
  intro next Q hnext
  unfold Oper.wp
  have hlen := hs.toklen
  simp only at hlen
  have hbox : ∀ (j b c : Nat), g.box[j]? = some (.blk b c) → b < w.heap.size := fun j b c hj => (hs.boxin j b c hj).2
  have htok : ∀ (k b : Nat), g.tok[k]? = some (some b) → b < w.heap.size := fun k b hk => (hs.tokin k b hk).2
  have big : ∀ ys, SeesL (SeesB bx) vs ys → Both (Rep w.heap.size w (bigF w g.F) [] [] []) ys us.toArray.toList := fun ys hv => by
    simpa using both_sees hvs hv (fun x y v hS hx => hS (bigF w g.F) hs.boxrep (bigF_le w g.F) bigF_cells hx w.heap.size [])
  cases h with
  | mk ys r frs h hv hk =>
    obtain ⟨hok, hR⟩ := h
    rw [hrun hok, Oper.upon_enter]
    have hargs : Both (Rep w.heap.size w g.F [] [] []) ys us.toArray.toList := by simpa using both_sees hvs hv (fun x y v hS hx => hS hx w.heap.size [])
    refine (hR w g.F us.toArray hs.condNow.none hs.out hargs).mono ?_
    rintro en w' ⟨v, F', tok, box, rfl, hb, hold, hout, htl, htin, htinj, hrep⟩
    have L : Later w g.F g.tok f w' F' (g.tok ++ tok) (f ++ frs) := by
      have L0 := later_below hs hb
      refine ⟨L0.cell, fun b => ?_, fun k t s m hk => ?_⟩
      · rcases Nat.lt_or_ge b w.heap.size with h | h
        · rw [hold b h]; exact Nat.le_refl _
        · rw [hs.out b h]; exact Nat.zero_le _
      · have hlt := getElem?_lt hk
        refine ⟨m, by rw [List.getElem?_append_left hlt]; exact hk, Nat.le_refl _, fun _ => ⟨by rw [List.getElem?_append_left (by omega)], fun b hb' => ?_⟩⟩
        have hbw := htok k b hb'
        exact ⟨hb.block b hbw, hold b hbw⟩
    have S : Sim mo n w0 F0 box0 U ⟨F', g.tok ++ tok, g.box⟩ ⟨e, bx, f ++ frs⟩ a w' := {
      defers := hs.defers, size := hs.size
      env := hs.env.later L (fun _ _ h => h)
      held := hs.held.later L (fun _ _ h => h)
      below := hs.below.trans hb
      old := fun b h => by simp only; rw [hold b (Nat.lt_of_lt_of_le h hs.below.size)]; exact hs.old b h
      out := hout
      boxlen := hs.boxlen
      boxpre := hs.boxpre
      boxin := fun j b c h => ⟨(hs.boxin j b c h).1, Nat.lt_of_lt_of_le (hbox j b c h) hb.size⟩
      boxF := fun j b c h hl => by simp only; rw [hold b (hbox j b c h)]; exact hs.boxF j b c h hl
      boxrep := hs.boxrep.later L (fun j b c h _ => hb.block b (hbox j b c h))
      boxinj := hs.boxinj
      cond := hs.cond
      toklen := by simp [hlen, htl]
      tokin := fun k b h => by
        rw [List.getElem?_append] at h
        split at h
        · have := hs.tokin k b h; exact ⟨this.1, Nat.lt_of_lt_of_le this.2 hb.size⟩
        · have := htin _ b h; exact ⟨Nat.le_trans hs.below.size this.1, this.2⟩
      tokbox := fun k b j c h hj => by
        rw [List.getElem?_append] at h
        split at h
        · exact hs.tokbox k b j c h hj
        · have := htin _ b h; have := hbox j b c hj; omega
      tokinj := fun i j b hi hj => by
        rw [List.getElem?_append] at hi hj
        split at hi <;> split at hj
        · exact hs.tokinj i j b hi hj
        · have := htok i b hi; have := (htin _ b hj).1; omega
        · have := htok j b hj; have := (htin _ b hi).1; omega
        · have := htinj _ _ b hi hj; omega }
    refine hnext _ _ _ _ _ _ S (.rep _ _ (hrep.mapT _ (fun k l hkl t s m hk => ?_) (fun _ _ _ => hs.below.size) g.box)) hk (fun _ => ⟨hb, TokNew.app fun k b hk => (htin k b hk).1⟩)
    cases hkl
    refine ⟨?_, ?_⟩
    · rw [List.getElem?_append_right (by omega), Nat.add_sub_cancel]; exact hk
    · show (g.tok ++ tok)[k + f.length]? = tok[k]?
      rw [List.getElem?_append_right (by omega), hlen, Nat.add_sub_cancel]
  | alias v1 v2 y1 y2 cs zs r r' frs hvs' hc hv1 hv2 hz h hr hk =>
    subst hvs'
    obtain ⟨al, u, bs, rfl, b1, b2, b3⟩ := hvs.split
    have hagg : ∃ ws : Array Value, u = .agg ws ∧ cs.length = ws.size ∧ (∀ i, i < ws.size → (ws.getD i undef).oneCell' = true) ∧ ∀ (i : Nat) c, cs[i]? = some c → Rep w0.heap.size w g.F g.tok f g.box c (ws.getD i undef) := by
      cases b2.agg_inv with
      | agg _ ws hl h1 hr0 => exact ⟨ws, rfl, hl, h1, hr0⟩
    obtain ⟨ws, rfl, hl, h1, hrep0⟩ := hagg
    have hul : ws.toList.length = cs.length := by simpa using hl.symm
    have hcu : ∀ (i : Nat) c u, cs[i]? = some c → ws.toList[i]? = some u → Rep w0.heap.size w g.F g.tok f g.box c u := fun i c u hi hu => by
      have e := hrep0 i c hi
      have hu' : ws[i]? = some u := by simpa using hu
      have hi' := (Array.getElem?_eq_some_iff.1 hu').1
      have e1 : ws.getD i undef = u := by simp [Array.getD, hi', (Array.getElem?_eq_some_iff.1 hu').2]
      rwa [e1] at e
    obtain ⟨hok, hR⟩ := h ws.toList hul
    rw [hrun hok, Oper.upon_enter]
    have hzl := hz.length
    have hargs : Both (Rep w.heap.size w g.F [] [] []) (y1 ++ .agg (tags ws.toList zs) :: y2) (al ++ .agg ws :: bs).toArray.toList := by
      refine Both.join (both_sees b1 hv1 (fun x y v hS hx => hS hx w.heap.size [])) (.agg _ ws ?_ h1 (fun i c hi => ?_)) (both_sees b3 hv2 (fun x y v hS hx => hS hx w.heap.size []))
      · rw [tags, List.length_zipWith, ← hzl, hul, Nat.min_self]; omega
      · rw [tags, List.getElem?_zipWith] at hi
        cases hu : ws.toList[i]? with
        | none => rw [hu] at hi; cases zs[i]? <;> cases hi
        | some u =>
          cases hz' : zs[i]? with
          | none => rw [hu, hz'] at hi; cases hi
          | some z =>
            rw [hu, hz'] at hi
            cases hi
            obtain ⟨c, hc', hS⟩ := hz.get' hz'
            have hu' : ws[i]? = some u := by simpa using hu
            have hi' := (Array.getElem?_eq_some_iff.1 hu').1
            have e1 : ws.getD i undef = u := by simp [Array.getD, hi', (Array.getElem?_eq_some_iff.1 hu').2]
            rw [e1]
            exact .tag z u (hS (.rep _ _ (hcu i c u hc' hu)) w.heap.size []) (e1 ▸ h1 i hi')
    refine (hR w g.F (al ++ .agg ws :: bs).toArray hs.condNow.none hs.out hargs).mono ?_
    rintro en w' ⟨v, F', tok, box, rfl, hb, hold, hout, htl, htin, htinj, hrep⟩
    have L : Later w g.F g.tok f w' F' (g.tok ++ tok) (f ++ frs) := by
      have L0 := later_below hs hb
      refine ⟨L0.cell, fun b => ?_, fun k t s m hk => ?_⟩
      · rcases Nat.lt_or_ge b w.heap.size with h | h
        · rw [hold b h]; exact Nat.le_refl _
        · rw [hs.out b h]; exact Nat.zero_le _
      · have hlt := getElem?_lt hk
        refine ⟨m, by rw [List.getElem?_append_left hlt]; exact hk, Nat.le_refl _, fun _ => ⟨by rw [List.getElem?_append_left (by omega)], fun b hb' => ?_⟩⟩
        have hbw := htok k b hb'
        exact ⟨hb.block b hbw, hold b hbw⟩
    have S : Sim mo n w0 F0 box0 U ⟨F', g.tok ++ tok, g.box⟩ ⟨e, bx, f ++ frs⟩ a w' := {
      defers := hs.defers, size := hs.size
      env := hs.env.later L (fun _ _ h => h)
      held := hs.held.later L (fun _ _ h => h)
      below := hs.below.trans hb
      old := fun b h => by simp only; rw [hold b (Nat.lt_of_lt_of_le h hs.below.size)]; exact hs.old b h
      out := hout
      boxlen := hs.boxlen
      boxpre := hs.boxpre
      boxin := fun j b c h => ⟨(hs.boxin j b c h).1, Nat.lt_of_lt_of_le (hbox j b c h) hb.size⟩
      boxF := fun j b c h hl => by simp only; rw [hold b (hbox j b c h)]; exact hs.boxF j b c h hl
      boxrep := hs.boxrep.later L (fun j b c h _ => hb.block b (hbox j b c h))
      boxinj := hs.boxinj
      cond := hs.cond
      toklen := by simp [hlen, htl]
      tokin := fun k b h => by
        rw [List.getElem?_append] at h
        split at h
        · have := hs.tokin k b h; exact ⟨this.1, Nat.lt_of_lt_of_le this.2 hb.size⟩
        · have := htin _ b h; exact ⟨Nat.le_trans hs.below.size this.1, this.2⟩
      tokbox := fun k b j c h hj => by
        rw [List.getElem?_append] at h
        split at h
        · exact hs.tokbox k b j c h hj
        · have := htin _ b h; have := hbox j b c hj; omega
      tokinj := fun i j b hi hj => by
        rw [List.getElem?_append] at hi hj
        split at hi <;> split at hj
        · exact hs.tokinj i j b hi hj
        · have := htok i b hi; have := (htin _ b hj).1; omega
        · have := htok j b hj; have := (htin _ b hi).1; omega
        · have := htinj _ _ b hi hj; omega }
    refine hnext _ _ _ _ _ _ S (.rep _ _ ((hr ws.toList hul).rep hs.below.size hlen (fun i c u hi hu box => ?_) hrep g.box)) hk (fun _ => ⟨hb, TokNew.app fun k b hk => (htin k b hk).1⟩)
    exact ((hcu i c u hi hu).later L (fun _ _ h => h)).anyBox box (hc c (List.mem_of_getElem? hi))
  | scal ys r h hr hv hk =>
    obtain ⟨hok, hR⟩ := h
    rw [hrun hok, Oper.upon_enter]
    refine (hR w (bigF w g.F) us.toArray hs.condNow.none (fun b hb => bigF_out hb (hs.out b hb)) (big ys hv)).mono ?_
    rintro en w' ⟨v, F', tok, box, rfl, hb, _, _, _, _, _, hrep⟩
    obtain ⟨v0, hv0⟩ := scalR_rep hr
    have : v = v0 := hv0.2 v hrep
    subst this
    exact hnext _ _ _ _ _ _ (hs.world hb) (.rep _ _ hv0.1) hk (fun _ => ⟨hb, TokNew.refl _ _⟩)
  | old ys x h hv ho hk =>
    obtain ⟨hok, hR⟩ := h
    rw [hrun hok, Oper.upon_enter]
    refine (hR w (bigF w g.F) us.toArray hs.condNow.none (fun b hb => bigF_out hb (hs.out b hb)) (big ys hv)).mono ?_
    rintro en w' ⟨v, ds, rfl, hb, hown, hnd, hds⟩
    have S := (hs.world hb).moreF (fun b => if b ∈ ds then bigF w' g.F b else g.F b) w.heap.size hs.below.size hbox htok
      (fun b hlt => by rw [if_neg (fun hm => by have := (hds b hm).1; omega)])
      (fun b => by split; exact bigF_le _ _ _; exact Nat.le_refl _)
      (fun b hge => by rw [if_neg (fun hm => by have := (hds b hm).2; omega)]; exact hs.out b (Nat.le_trans hb.size hge))
    refine hnext _ _ _ _ _ _ S (.rep _ _ (hown.rep _ _ _ _ (fun d hd c t z hh => ?_) (by simp [okTL, ho]) 0 x v rfl rfl _)) hk (fun _ => ⟨hb, TokNew.refl _ _⟩)
    simp only [if_pos hd]; exact bigF_cells d c t z hh
  | unb ys x h hv hk =>
    obtain ⟨hok, hR⟩ := h
    rw [hrun hok, Oper.upon_enter]
    refine (hR w (bigF w g.F) us.toArray hs.condNow.none (fun b hb => bigF_out hb (hs.out b hb)) (big ys hv)).mono ?_
    rintro en w' ⟨v, ds, rfl, hb, hown, hnd, hds⟩
    have S0 := hs.world hb
    have hbl := hs.boxlen
    simp only at hbl
    obtain ⟨ids, i1, i2, i3, i4⟩ := hown.boxes w0.heap.size g.F g.tok f
    have i1' : ids.length = (gb x bx.length).length := by rw [length_gb, i1]; simp [nbL]
    obtain ⟨r1, r2⟩ := i4 bx.length (g.box ++ ids) (fun i d hi => by rw [← hbl, List.getElem?_append_right (by omega), Nat.add_sub_cancel_left]; exact hi)
    have hext : ∀ (j : Nat) d, g.box[j]? = some d → (g.box ++ ids)[j]? = some d := fun j d h => by rw [List.getElem?_append_left (getElem?_lt h)]; exact h
    have cases2 : ∀ {j : Nat} {d : BId}, (g.box ++ ids)[j]? = some d → (g.box[j]? = some d ∧ j < bx.length) ∨ (ids[j - bx.length]? = some d ∧ bx.length ≤ j) := fun {j d} h => by
      rw [List.getElem?_append] at h
      split at h
      · exact .inl ⟨h, by omega⟩
      · exact .inr ⟨by rw [← hbl]; exact h, by omega⟩
    have L : Later w' g.F g.tok f w' g.F g.tok f := Later.refl _ _ _ _
    have livel : ∀ {j : Nat}, j < bx.length → (live (bx ++ gb x bx.length) j ↔ live bx j) := fun h => live_append h
    have S : Sim mo n w0 F0 box0 U { g with box := g.box ++ ids } ⟨e, bx ++ gb x bx.length, f⟩ a w' := { S0 with
      env := S0.env.later L hext
      held := S0.held.later L hext
      boxlen := by simp [hbl, i1']
      boxpre := fun j d h => hext j d (hs.boxpre j d h)
      boxin := fun j b c h => by
        rcases cases2 h with ⟨h, _⟩ | ⟨h, _⟩
        · exact S0.boxin j b c h
        · have := hds b (i2 _ b c h); exact ⟨.inl (Nat.le_trans hs.below.size this.1), this.2⟩
      boxF := fun j b c h hl => by
        rcases cases2 h with ⟨h, h'⟩ | ⟨h, _⟩
        · exact S0.boxF j b c h ((livel h').1 hl)
        · exact hs.out b (hds b (i2 _ b c h)).1
      boxrep := fun j d y h hy => by
        rcases cases2 h with ⟨h, h'⟩ | ⟨h, h'⟩
        · have hy' : bx[j]? = some y := by rw [List.getElem?_append_left h'] at hy; exact hy
          exact (S0.boxrep j d y h hy').later L hext (fun _ _ _ _ => rfl)
        · have hy' : (gb x bx.length)[j - bx.length]? = some y := by rw [List.getElem?_append_right h'] at hy; exact hy
          exact r2 _ d y h (by simpa [gbL] using hy')
      boxinj := fun i j b c c' hi hj li lj => by
        rcases cases2 hi with ⟨hi, hi'⟩ | ⟨hi, hi'⟩ <;> rcases cases2 hj with ⟨hj, hj'⟩ | ⟨hj, hj'⟩
        · exact S0.boxinj i j b c c' hi hj ((livel hi').1 li) ((livel hj').1 lj)
        · have := hbox i b c hi; have := (hds b (i2 _ b c' hj)).1; omega
        · have := hbox j b c' hj; have := (hds b (i2 _ b c hi)).1; omega
        · have := i3 hnd _ _ b c c' hi hj; omega
      tokbox := fun k b j c hk hj => by
        rcases cases2 hj with ⟨hj, hj'⟩ | ⟨hj, _⟩
        · intro hl; exact S0.tokbox k b j c hk hj ((livel hj').1 hl)
        · have := htok k b hk; have := (hds b (i2 _ b c hj)).1; omega }
    refine hnext _ _ _ _ _ _ S (.rep _ _ (r1 0 _ v rfl rfl)) hk (fun _ => ⟨hb, TokNew.refl _ _⟩)
  | turn hl ys x x' r pre post h hr hb0 hn hv hk =>
    obtain ⟨hok, hR⟩ := h
    subst hb0
    have hbl := hs.boxlen
    simp only [List.length_append, length_gb] at hbl
    -- the boxes that are lent
    have hmid : ∀ (i : Nat) d, i < nb x → (g.box[pre.length + i]? = some d ↔ ((g.box.drop pre.length).take (nb x))[0 + i]? = some d) := fun i d hi => by
      rw [List.getElem?_take, Nat.zero_add, if_pos hi, List.getElem?_drop]
    have hget : ∀ {i : Nat} {d : BId}, ((g.box.drop pre.length).take (nb x))[i]? = some d → i < nb x ∧ g.box[pre.length + i]? = some d := fun {i d} h => by
      rw [List.getElem?_take] at h
      split at h
      · rw [List.getElem?_drop] at h; exact ⟨by assumption, h⟩
      · cases h
    have bxmid : ∀ {i : Nat}, i < nb x → (pre ++ gb x pre.length ++ post)[pre.length + i]? = (gb x pre.length)[i]? := fun {i} hi => by
      rw [List.append_assoc, List.getElem?_append_right (by omega), Nat.add_sub_cancel_left, List.getElem?_append_left (by rw [length_gb]; exact hi)]
    have notdead : ∀ (x : Tr) (m i : Nat), (gb x m)[i]? ≠ some .dead := notDead
    have lmid : ∀ {i : Nat}, i < nb x → live (pre ++ gb x pre.length ++ post) (pre.length + i) := fun {i} hi h => by
      rw [bxmid hi] at h; exact notdead x _ _ h
    have hin : ∀ {i b c : Nat}, ((g.box.drop pre.length).take (nb x))[i]? = some (.blk b c) → g.box[pre.length + i]? = some (.blk b c) ∧ live (pre ++ gb x pre.length ++ post) (pre.length + i) := fun {i b c} h => ⟨(hget h).2, lmid (hget h).1⟩
    have hBO : BoxesOk w.heap.size w g.F [] [] ((g.box.drop pre.length).take (nb x)) (gb x 0) := fun j d y hd hy => by
      refine gb_move (n := pre.length) (m := 0) (B := w0.heap.size) (F := g.F) (tok := g.tok) (fr := f) (box := g.box) x (fun i d hi => hmid i d hi) (fun j d y hd hy => hs.boxrep (pre.length + j) d y hd ?_) j d y (by rw [Nat.zero_add]; exact hd) hy
      rw [bxmid (by have := getElem?_lt hy; rw [length_gb] at this; exact this)]; exact hy
    have hargs : Both (Rep w.heap.size w g.F [] [] ((g.box.drop pre.length).take (nb x))) ys us.toArray.toList := by
      have := both_sees (R' := Rep w.heap.size w g.F [] [] ((g.box.drop pre.length).take (nb x))) hvs hv (fun u y v hS hx => by
        rcases hS with ⟨rfl, rfl⟩ | hS
        · have hp : Rep w0.heap.size w g.F g.tok f g.box (gv x pre.length) v := hx.plain (fun g y => by cases x <;> simp [gv])
          exact gv_move x pre.length 0 (fun i d hi hd => (hmid i d hi).1 hd) v hp
        · exact hS hx _ _)
      simpa using this
    rw [hrun hok, Oper.upon_enter]
    refine (hR w g.F us.toArray _ (hs.condNow.sub fun j b c hj => ⟨_, (hget hj).2⟩) hs.out (by rw [length_gb]; simp; omega) (fun j b c hj => ⟨hbox _ b c (hget hj).2, hs.boxF _ b c (hin hj).1 (hin hj).2⟩)
      (fun i j b c c' hi hj => by have := hs.boxinj _ _ b c c' (hin hi).1 (hin hj).1 (hin hi).2 (hin hj).2; omega) hBO hargs).mono ?_
    rintro en w' ⟨v, F', rfl, hkeep, hold, hout, hBO', hrep⟩
    obtain ⟨v0, hv0⟩ := scalR_rep hr
    have : v = v0 := hv0.2 v hrep
    subst this
    -- blocks of the state's own that are not lent stay
    have same : ∀ b, b < w.heap.size → (∀ (i c : Nat), i < nb x → g.box[pre.length + i]? ≠ some (.blk b c)) → w'.heap[b]? = w.heap[b]? := fun b hb hn => hkeep.block b hb (fun j c hj => hn j c (hget hj).1 (hget hj).2)
    have hFmid : ∀ (b i c : Nat), i < nb x → g.box[pre.length + i]? = some (.blk b c) → g.F b = 0 := fun b i c hi hj => hs.boxF _ b c hj (lmid hi)
    have L : Later w g.F g.tok f w' F' g.tok f := by
      refine ⟨fun b i hi => ?_, fun b => ?_, fun k t s m hk => ⟨m, hk, Nat.le_refl _, fun _ => ⟨rfl, fun b hb => ?_⟩⟩⟩
      · have hlt : b < w.heap.size := by
          rcases Nat.lt_or_ge b w.heap.size with h | h
          · exact h
          · rw [hs.out b h] at hi; omega
        exact World.cell?_of_block (w := w) (same b hlt (fun i' c hi' hj => by have := hFmid b i' c hi' hj; omega))
      · rcases Nat.lt_or_ge b w.heap.size with h | h
        · rw [hold b h]; exact Nat.le_refl _
        · rw [hs.out b h]; exact Nat.zero_le _
      · have hbw := htok k b hb
        exact ⟨same b hbw (fun i c hi hj => hs.tokbox k b _ c hb hj (lmid hi)), hold b hbw⟩
    have bxlen : (pre ++ gb x' pre.length ++ post).length = (pre ++ gb x pre.length ++ post).length := by simp [length_gb, hn]
    have bxother : ∀ {j : Nat}, (∀ i, i < nb x → j ≠ pre.length + i) → (pre ++ gb x' pre.length ++ post)[j]? = (pre ++ gb x pre.length ++ post)[j]? := fun {j} hj => by
      rcases Nat.lt_or_ge j pre.length with h | h
      · rw [List.append_assoc, List.append_assoc, List.getElem?_append_left h, List.getElem?_append_left h]
      · have h2 : nb x ≤ j - pre.length := by
          rcases Nat.lt_or_ge (j - pre.length) (nb x) with h3 | h3
          · exact absurd (by omega) (hj _ h3)
          · exact h3
        rw [List.getElem?_append_right (by simp [length_gb]; omega), List.getElem?_append_right (by simp [length_gb]; omega)]
        simp [length_gb, hn]
    have bxmid' : ∀ {i : Nat}, i < nb x → (pre ++ gb x' pre.length ++ post)[pre.length + i]? = (gb x' pre.length)[i]? := fun {i} hi => by
      rw [List.append_assoc, List.getElem?_append_right (by omega), Nat.add_sub_cancel_left, List.getElem?_append_left (by rw [length_gb, hn]; exact hi)]
    have lsame : ∀ {j : Nat}, live (pre ++ gb x' pre.length ++ post) j ↔ live (pre ++ gb x pre.length ++ post) j := fun {j} => by
      by_cases hj : ∃ i, i < nb x ∧ j = pre.length + i
      · obtain ⟨i, hi, rfl⟩ := hj
        refine ⟨fun _ => lmid hi, fun _ h => ?_⟩
        rw [bxmid' hi] at h; exact notdead x' _ _ h
      · unfold live; rw [bxother (fun i hi h => hj ⟨i, hi, h⟩)]
    have S : Sim mo n w0 F0 box0 U { g with F := F' } ⟨e, pre ++ gb x' pre.length ++ post, f⟩ a w' := {
      defers := hs.defers, size := hs.size
      env := hs.env.later L (fun _ _ h => h)
      held := hs.held.later L (fun _ _ h => h)
      below := ⟨fun m => Nat.le_trans (hs.below.drawn m) (hkeep.drawn m), hkeep.os.trans hs.below.os, hkeep.tape.trans hs.below.tape, hkeep.output.trans hs.below.output, Nat.le_trans hs.below.size hkeep.size, fun b hb hnb => by
        rw [same b (Nat.lt_of_lt_of_le hb hs.below.size) (fun i c hi hj => ?_)]
        · exact hs.below.block b hb hnb
        · rcases (hs.boxin _ b c hj).1 with h | ⟨i', h⟩
          · omega
          · exact hnb i' c h⟩
      old := fun b h => by simp only; rw [hold b (Nat.lt_of_lt_of_le h hs.below.size)]; exact hs.old b h
      out := hout
      boxlen := by have := hs.boxlen; simp only at this ⊢; rw [bxlen]; exact this
      boxpre := hs.boxpre
      boxin := fun j b c h => ⟨(hs.boxin j b c h).1, Nat.lt_of_lt_of_le (hbox j b c h) hkeep.size⟩
      boxF := fun j b c h hl => by simp only; rw [hold b (hbox j b c h)]; exact hs.boxF j b c h (lsame.1 hl)
      boxrep := fun j d y hd hy => by
        by_cases hj : ∃ i, i < nb x ∧ j = pre.length + i
        · obtain ⟨i, hi, rfl⟩ := hj
          simp only at hy
          rw [bxmid' hi] at hy
          refine gb_move (n := 0) (m := pre.length) (B := w.heap.size) (F := F') (tok := []) (fr := []) (box := (g.box.drop pre.length).take (nb x)) x' (fun i d hi => by rw [hn] at hi; exact (hmid i d hi).symm)
            (fun j d y hd hy => hBO' j d y (by rw [Nat.zero_add] at hd; exact hd) hy) i d y hd hy
        · have hne : ∀ i, i < nb x → j ≠ pre.length + i := fun i hi h => hj ⟨i, hi, h⟩
          simp only at hy
          rw [bxother hne] at hy
          refine (hs.boxrep j d y hd hy).later L (fun _ _ h => h) (fun b c he hnd => same b (hbox j b c (he ▸ hd)) (fun i c' hi hj' => ?_))
          have := hs.boxinj j (pre.length + i) b c c' (he ▸ hd) hj' (fun h => hnd (by rw [hy] at h; exact Option.some.inj h)) (lmid hi)
          exact hne i hi this
      boxinj := fun i j b c c' hi hj li lj => hs.boxinj i j b c c' hi hj (lsame.1 li) (lsame.1 lj)
      cond := hs.cond
      toklen := hs.toklen
      tokin := fun k b h => ⟨(hs.tokin k b h).1, Nat.lt_of_lt_of_le (hs.tokin k b h).2 hkeep.size⟩
      tokbox := fun k b j c hk hj hl => hs.tokbox k b j c hk hj (lsame.1 hl)
      tokinj := hs.tokinj }
    exact hnext _ _ _ _ _ _ S (.rep _ _ hv0.1) hk (fun h0 => by rw [h0] at hl; cases hl)

  | ctx hl b0 ys Φ h hb0 hv hk =>
    obtain ⟨hok, hR⟩ := h
    have hbl := hs.boxlen
    simp only at hbl
    have hlen0 := hb0.len
    have hget := hb0.get
    have lv : ∀ {j : Nat}, live b0 j → live bx j := fun {j} h hd => by
      have hj := getElem?_lt hd
      have hx : b0[j]? = some b0[j] := List.getElem?_eq_getElem (by omega)
      rcases hget j _ hx with h' | ⟨h', _⟩
      · exact h (by rw [hx, h'])
      · rw [hd] at h'; exact h (by rw [hx]; exact congrArg some (Option.some.inj h').symm)
    have hBO : BoxesOk w.heap.size w g.F [] [] g.box b0 := fun j d y hd hy => by
      rcases hget j y hy with rfl | ⟨hy', ⟨k, cs, rfl, hc⟩ | ⟨m, rfl⟩ | ⟨kk, vk, m, rfl⟩⟩
      · cases d <;> exact trivial
      · exact (hs.boxrep j d _ hd hy').noTk hc
      · have h0 := hs.boxrep j d _ hd hy'
        cases d with
        | blk b c => exact h0
        | nil => exact h0
      · have h0 := hs.boxrep j d _ hd hy'
        cases d with
        | blk b c => exact h0
        | nil => exact h0
    have hargs : Both (Rep w.heap.size w g.F [] [] g.box) ys us.toArray.toList := by
      have := both_sees (R' := Rep w.heap.size w g.F [] [] g.box) hvs hv (fun u y v hS hx => by
        rcases hS with ⟨rfl, hn⟩ | hS
        · exact (hx.plain (fun g y he => by rw [he, Abs.noTk] at hn; cases hn)).noTk hn
        · exact hS hx _ _)
      simpa using this
    rw [hrun hok, Oper.upon_enter]
    refine (hR w g.F us.toArray g.box hs.condNow hs.out (by omega) (fun j b c hj => ⟨hbox _ b c hj, fun h => hs.boxF _ b c hj (lv h)⟩) (fun i j b c c' hi hj li lj => hs.boxinj i j b c c' hi hj (lv li) (lv lj)) hBO hargs).mono ?_
    rintro en w' ⟨v, F', box1, r, b1, hΦ, rfl, hkeep, hold, hout, hext, hl1, hin, hF1, hj1, hr1, hrep⟩
    have hle : bx.length ≤ b1.length := by
      rcases Nat.lt_or_ge b1.length bx.length with h | h
      · have h1 : b1.length < g.box.length := by omega
        have := getElem?_lt (hext b1.length _ (List.getElem?_eq_getElem h1))
        omega
      · exact h
    obtain ⟨hml, hm⟩ := merge_get bx b0 b1 hlen0 hle
    -- a block that is not lent stays
    have same : ∀ b, b < w.heap.size → (∀ (i c : Nat), live b0 i → g.box[i]? ≠ some (.blk b c)) → w'.heap[b]? = w.heap[b]? := fun b hb hn => hkeep.block b hb (fun j c hj => by
      obtain ⟨h1, h2, _⟩ := mask_get _ _ _ _ _ hj
      exact hn j c h2 h1)
    have hFl : ∀ (b i c : Nat), live b0 i → g.box[i]? = some (.blk b c) → g.F b = 0 := fun b i c hi hj => hs.boxF _ b c hj (lv hi)
    have L : Later w g.F g.tok f w' F' g.tok f := by
      refine ⟨fun b i hi => ?_, fun b => ?_, fun k t s m hk => ⟨m, hk, Nat.le_refl _, fun _ => ⟨rfl, fun b hb => ?_⟩⟩⟩
      · have hlt : b < w.heap.size := by
          rcases Nat.lt_or_ge b w.heap.size with h | h
          · exact h
          · rw [hs.out b h] at hi; omega
        exact World.cell?_of_block (w := w) (same b hlt (fun i' c hi' hj => by have := hFl b i' c hi' hj; omega))
      · rcases Nat.lt_or_ge b w.heap.size with h | h
        · rw [hold b h]; exact Nat.le_refl _
        · rw [hs.out b h]; exact Nat.zero_le _
      · have hbw := htok k b hb
        exact ⟨same b hbw (fun i c hi hj => hs.tokbox k b _ c hb hj (lv hi)), hold b hbw⟩
    -- which boxes are meant
    have split : ∀ j : Nat, j < b1.length → (j < bx.length ∧ b0[j]? = some .dead ∧ (merge bx b0 b1)[j]? = bx[j]?) ∨ ((g.box.length ≤ j ∨ live b0 j) ∧ (merge bx b0 b1)[j]? = b1[j]?) := fun j hj => by
      by_cases hd : b0[j]? = some .dead
      · exact .inl ⟨by have := getElem?_lt hd; omega, hd, (hm j).1 hd⟩
      · exact .inr ⟨.inr hd, (hm j).2 hd⟩
    have where1 : ∀ (j b c : Nat), (g.box.length ≤ j ∨ live b0 j) → box1[j]? = some (.blk b c) → (w.heap.size ≤ b ∨ ∃ i : Nat, live b0 i ∧ g.box[i]? = some (.blk b c)) ∧ b < w'.heap.size := fun j b c hj hd => by
      rcases Nat.lt_or_ge j g.box.length with h | h
      · have h0 := hext j _ (List.getElem?_eq_getElem h)
        rw [hd] at h0
        have h1 : g.box[j]? = some (.blk b c) := by rw [List.getElem?_eq_getElem h]; exact h0.symm
        rcases hj with hj | hj
        · omega
        · exact ⟨.inr ⟨j, hj, h1⟩, Nat.lt_of_lt_of_le (hbox j b c h1) hkeep.size⟩
      · exact hin j b c h hd
    have liveM : ∀ {j : Nat}, live (merge bx b0 b1) j → j < b1.length → (j < bx.length ∧ b0[j]? = some .dead ∧ live bx j) ∨ ((g.box.length ≤ j ∨ live b0 j) ∧ live b1 j) := fun {j} h hj => by
      rcases split j hj with ⟨h1, h2, h3⟩ | ⟨h1, h3⟩
      · exact .inl ⟨h1, h2, by unfold live at h ⊢; rw [← h3]; exact h⟩
      · exact .inr ⟨h1, by unfold live at h ⊢; rw [← h3]; exact h⟩
    have old1 : ∀ {j : Nat} {d : BId}, j < bx.length → box1[j]? = some d → g.box[j]? = some d := fun {j d} h hd => by
      have h' : j < g.box.length := by omega
      have h0 := hext j _ (List.getElem?_eq_getElem h')
      rw [hd] at h0; rw [List.getElem?_eq_getElem h']; exact h0.symm
    have S : Sim mo n w0 F0 box0 U { g with F := F', box := box1 } ⟨e, merge bx b0 b1, f⟩ a w' := {
      defers := hs.defers, size := hs.size
      env := hs.env.later L hext
      held := hs.held.later L hext
      below := ⟨fun m => Nat.le_trans (hs.below.drawn m) (hkeep.drawn m), hkeep.os.trans hs.below.os, hkeep.tape.trans hs.below.tape, hkeep.output.trans hs.below.output, Nat.le_trans hs.below.size hkeep.size, fun b hb hnb => by
        rw [same b (Nat.lt_of_lt_of_le hb hs.below.size) (fun i c hi hj => ?_)]
        · exact hs.below.block b hb hnb
        · rcases (hs.boxin _ b c hj).1 with h | ⟨i', h⟩
          · omega
          · exact hnb i' c h⟩
      old := fun b h => by simp only; rw [hold b (Nat.lt_of_lt_of_le h hs.below.size)]; exact hs.old b h
      out := hout
      boxlen := by simp only; rw [hml]; exact hl1
      boxpre := fun j d h => hext j d (hs.boxpre j d h)
      boxin := fun j b c h => by
        rcases split j (by have := getElem?_lt h; simp only at this; omega) with ⟨h1, _, _⟩ | ⟨h1, _⟩
        · have h2 := old1 h1 h
          exact ⟨(hs.boxin j b c h2).1, Nat.lt_of_lt_of_le (hbox j b c h2) hkeep.size⟩
        · obtain ⟨h2, h3⟩ := where1 j b c h1 h
          refine ⟨?_, h3⟩
          rcases h2 with h2 | ⟨i, _, h2⟩
          · exact .inl (Nat.le_trans hs.below.size h2)
          · exact (hs.boxin i b c h2).1
      boxF := fun j b c h hl => by
        rcases liveM hl (by have := getElem?_lt h; simp only at this; omega) with ⟨h1, _, h3⟩ | ⟨h1, h3⟩
        · have h2 := old1 h1 h
          simp only; rw [hold b (hbox j b c h2)]; exact hs.boxF j b c h2 h3
        · exact hF1 j b c h h3 h1
      boxrep := fun j d y hd hy => by
        rcases split j (by have := getElem?_lt hd; simp only at this; omega) with ⟨h1, h2, h3⟩ | ⟨h1, h3⟩
        · have hd' := old1 h1 hd
          have hy' : bx[j]? = some y := by rw [← h3]; exact hy
          refine (hs.boxrep j d y hd' hy').later L hext (fun b c he hnd => same b (hbox j b c (he ▸ hd')) (fun i c' hi hj' => ?_))
          have := hs.boxinj j i b c c' (he ▸ hd') hj' (fun h => hnd (by rw [hy'] at h; exact Option.some.inj h)) (lv hi)
          subst this; exact hi h2
        · exact (hr1 j d y hd (by rw [← h3]; exact hy) h1).up
      boxinj := fun i j b c c' hi hj li lj => by
        have mixed : ∀ {i j c c' : Nat}, i < bx.length → b0[i]? = some .dead → live bx i → box1[i]? = some (.blk b c) → (g.box.length ≤ j ∨ live b0 j) → box1[j]? = some (.blk b c') → False := fun {i j c c'} h1 h2 h3 hi h4 hj => by
          have hi' := old1 h1 hi
          rcases (where1 j b c' h4 hj).1 with h | ⟨i', h5, h6⟩
          · have := hbox i b c hi'; omega
          · have := hs.boxinj i i' b c c' hi' h6 h3 (lv h5); subst this; exact h5 h2
        rcases liveM li (by have := getElem?_lt hi; simp only at this; omega) with ⟨i1, i2, i3⟩ | ⟨i1, i3⟩ <;> rcases liveM lj (by have := getElem?_lt hj; simp only at this; omega) with ⟨j1, j2, j3⟩ | ⟨j1, j3⟩
        · exact hs.boxinj i j b c c' (old1 i1 hi) (old1 j1 hj) i3 j3
        · exact (mixed i1 i2 i3 hi j1 hj).elim
        · exact (mixed j1 j2 j3 hj i1 hi).elim
        · exact hj1 i j b c c' hi hj i3 j3 i1 j1
      cond := hs.cond
      toklen := hs.toklen
      tokin := fun k b h => ⟨(hs.tokin k b h).1, Nat.lt_of_lt_of_le (hs.tokin k b h).2 hkeep.size⟩
      tokbox := fun k b j c hk' hj hl => by
        rcases liveM hl (by have := getElem?_lt hj; simp only at this; omega) with ⟨h1, h2, h3⟩ | ⟨h1, h3⟩
        · exact hs.tokbox k b j c hk' (old1 h1 hj) h3
        · rcases (where1 j b c h1 hj).1 with h | ⟨i, h5, h6⟩
          · have := htok k b hk'; omega
          · exact hs.tokbox k b i c hk' h6 (lv h5)
      tokinj := hs.tokinj }
    exact hnext _ _ _ _ _ _ S (.rep _ _ hrep.up) (hk r b1 hΦ) (fun h0 => by rw [h0] at hl; cases hl)

  | lent hl b0 ys Φ h hb0 hv hk =>
    obtain ⟨hok, hR⟩ := h
    have hbl := hs.boxlen
    simp only at hbl
    have hlen0 := hb0.len
    have hget := hb0.get
    have lv : ∀ {j : Nat}, live b0 j → live bx j := fun {j} h hd => by
      have hj := getElem?_lt hd
      have hx : b0[j]? = some b0[j] := List.getElem?_eq_getElem (by omega)
      rcases hget j _ hx with h' | ⟨h', _⟩
      · exact h (by rw [hx, h'])
      · rw [hd] at h'; exact h (by rw [hx]; exact congrArg some (Option.some.inj h').symm)
    have hBO : BoxesOk w.heap.size w g.F [] [] g.box b0 := fun j d y hd hy => by
      rcases hget j y hy with rfl | ⟨hy', ⟨k, cs, rfl, hc⟩ | ⟨m, rfl⟩ | ⟨kk, vk, m, rfl⟩⟩
      · cases d <;> exact trivial
      · exact (hs.boxrep j d _ hd hy').noTk hc
      · have h0 := hs.boxrep j d _ hd hy'
        cases d with
        | blk b c => exact h0
        | nil => exact h0
      · have h0 := hs.boxrep j d _ hd hy'
        cases d with
        | blk b c => exact h0
        | nil => exact h0
    have hargs : Both (Rep w.heap.size w g.F [] [] g.box) ys us.toArray.toList := by
      have := both_sees (R' := Rep w.heap.size w g.F [] [] g.box) hvs hv (fun u y v hS hx => by
        rcases hS with ⟨rfl, hn⟩ | hS
        · exact (hx.plain (fun g y he => by rw [he, Abs.noTk] at hn; cases hn)).noTk hn
        · exact hS hx _ _)
      simpa using this
    rw [hrun hok, Oper.upon_enter]
    refine (hR w g.F us.toArray g.box hs.condNow hs.out (by omega) (fun j b c hj => ⟨hbox _ b c hj, fun h => hs.boxF _ b c hj (lv h)⟩) (fun i j b c c' hi hj li lj => hs.boxinj i j b c c' hi hj (lv li) (lv lj)) hBO hargs).mono ?_
    rintro en w' ⟨v, F', box1, tok, frs, r, b1, hΦ, rfl, hkeep, hold, hout, hext, hl1, hin, hF1, hj1, hr1, htl, htin, htinj, htbx, hrep⟩
    have hle : bx.length ≤ b1.length := by
      rcases Nat.lt_or_ge b1.length bx.length with h | h
      · have h1 : b1.length < g.box.length := by omega
        have := getElem?_lt (hext b1.length _ (List.getElem?_eq_getElem h1))
        omega
      · exact h
    obtain ⟨hml, hm⟩ := merge_get bx b0 b1 hlen0 hle
    -- a block that is not lent stays
    have same : ∀ b, b < w.heap.size → (∀ (i c : Nat), live b0 i → g.box[i]? ≠ some (.blk b c)) → w'.heap[b]? = w.heap[b]? := fun b hb hn => hkeep.block b hb (fun j c hj => by
      obtain ⟨h1, h2, _⟩ := mask_get _ _ _ _ _ hj
      exact hn j c h2 h1)
    have hFl : ∀ (b i c : Nat), live b0 i → g.box[i]? = some (.blk b c) → g.F b = 0 := fun b i c hi hj => hs.boxF _ b c hj (lv hi)
    have L : Later w g.F g.tok f w' F' (g.tok ++ tok) (f ++ frs) := by
      refine ⟨fun b i hi => ?_, fun b => ?_, fun k t s m hk => ⟨m, by rw [List.getElem?_append_left (getElem?_lt hk)]; exact hk, Nat.le_refl _, fun _ => ⟨by rw [List.getElem?_append_left (by have := getElem?_lt hk; omega)], fun b hb => ?_⟩⟩⟩
      · have hlt : b < w.heap.size := by
          rcases Nat.lt_or_ge b w.heap.size with h | h
          · exact h
          · rw [hs.out b h] at hi; omega
        exact World.cell?_of_block (w := w) (same b hlt (fun i' c hi' hj => by have := hFl b i' c hi' hj; omega))
      · rcases Nat.lt_or_ge b w.heap.size with h | h
        · rw [hold b h]; exact Nat.le_refl _
        · rw [hs.out b h]; exact Nat.zero_le _
      · have hbw := htok k b hb
        exact ⟨same b hbw (fun i c hi hj => hs.tokbox k b _ c hb hj (lv hi)), hold b hbw⟩
    -- which boxes are meant
    have split : ∀ j : Nat, j < b1.length → (j < bx.length ∧ b0[j]? = some .dead ∧ (merge bx b0 b1)[j]? = bx[j]?) ∨ ((g.box.length ≤ j ∨ live b0 j) ∧ (merge bx b0 b1)[j]? = b1[j]?) := fun j hj => by
      by_cases hd : b0[j]? = some .dead
      · exact .inl ⟨by have := getElem?_lt hd; omega, hd, (hm j).1 hd⟩
      · exact .inr ⟨.inr hd, (hm j).2 hd⟩
    have where1 : ∀ (j b c : Nat), (g.box.length ≤ j ∨ live b0 j) → box1[j]? = some (.blk b c) → (w.heap.size ≤ b ∨ ∃ i : Nat, live b0 i ∧ g.box[i]? = some (.blk b c)) ∧ b < w'.heap.size := fun j b c hj hd => by
      rcases Nat.lt_or_ge j g.box.length with h | h
      · have h0 := hext j _ (List.getElem?_eq_getElem h)
        rw [hd] at h0
        have h1 : g.box[j]? = some (.blk b c) := by rw [List.getElem?_eq_getElem h]; exact h0.symm
        rcases hj with hj | hj
        · omega
        · exact ⟨.inr ⟨j, hj, h1⟩, Nat.lt_of_lt_of_le (hbox j b c h1) hkeep.size⟩
      · exact hin j b c h hd
    have liveM : ∀ {j : Nat}, live (merge bx b0 b1) j → j < b1.length → (j < bx.length ∧ b0[j]? = some .dead ∧ live bx j) ∨ ((g.box.length ≤ j ∨ live b0 j) ∧ live b1 j) := fun {j} h hj => by
      rcases split j hj with ⟨h1, h2, h3⟩ | ⟨h1, h3⟩
      · exact .inl ⟨h1, h2, by unfold live at h ⊢; rw [← h3]; exact h⟩
      · exact .inr ⟨h1, by unfold live at h ⊢; rw [← h3]; exact h⟩
    have old1 : ∀ {j : Nat} {d : BId}, j < bx.length → box1[j]? = some d → g.box[j]? = some d := fun {j d} h hd => by
      have h' : j < g.box.length := by omega
      have h0 := hext j _ (List.getElem?_eq_getElem h')
      rw [hd] at h0; rw [List.getElem?_eq_getElem h']; exact h0.symm
    have S : Sim mo n w0 F0 box0 U ⟨F', g.tok ++ tok, box1⟩ ⟨e, merge bx b0 b1, f ++ frs⟩ a w' := {
      defers := hs.defers, size := hs.size
      env := hs.env.later L hext
      held := hs.held.later L hext
      below := ⟨fun m => Nat.le_trans (hs.below.drawn m) (hkeep.drawn m), hkeep.os.trans hs.below.os, hkeep.tape.trans hs.below.tape, hkeep.output.trans hs.below.output, Nat.le_trans hs.below.size hkeep.size, fun b hb hnb => by
        rw [same b (Nat.lt_of_lt_of_le hb hs.below.size) (fun i c hi hj => ?_)]
        · exact hs.below.block b hb hnb
        · rcases (hs.boxin _ b c hj).1 with h | ⟨i', h⟩
          · omega
          · exact hnb i' c h⟩
      old := fun b h => by simp only; rw [hold b (Nat.lt_of_lt_of_le h hs.below.size)]; exact hs.old b h
      out := hout
      boxlen := by simp only; rw [hml]; exact hl1
      boxpre := fun j d h => hext j d (hs.boxpre j d h)
      boxin := fun j b c h => by
        rcases split j (by have := getElem?_lt h; simp only at this; omega) with ⟨h1, _, _⟩ | ⟨h1, _⟩
        · have h2 := old1 h1 h
          exact ⟨(hs.boxin j b c h2).1, Nat.lt_of_lt_of_le (hbox j b c h2) hkeep.size⟩
        · obtain ⟨h2, h3⟩ := where1 j b c h1 h
          refine ⟨?_, h3⟩
          rcases h2 with h2 | ⟨i, _, h2⟩
          · exact .inl (Nat.le_trans hs.below.size h2)
          · exact (hs.boxin i b c h2).1
      boxF := fun j b c h hl => by
        rcases liveM hl (by have := getElem?_lt h; simp only at this; omega) with ⟨h1, _, h3⟩ | ⟨h1, h3⟩
        · have h2 := old1 h1 h
          simp only; rw [hold b (hbox j b c h2)]; exact hs.boxF j b c h2 h3
        · exact hF1 j b c h h3 h1
      boxrep := fun j d y hd hy => by
        rcases split j (by have := getElem?_lt hd; simp only at this; omega) with ⟨h1, h2, h3⟩ | ⟨h1, h3⟩
        · have hd' := old1 h1 hd
          have hy' : bx[j]? = some y := by rw [← h3]; exact hy
          refine (hs.boxrep j d y hd' hy').later L hext (fun b c he hnd => same b (hbox j b c (he ▸ hd')) (fun i c' hi hj' => ?_))
          have := hs.boxinj j i b c c' (he ▸ hd') hj' (fun h => hnd (by rw [hy'] at h; exact Option.some.inj h)) (lv hi)
          subst this; exact hi h2
        · exact (hr1 j d y hd (by rw [← h3]; exact hy) h1).up
      boxinj := fun i j b c c' hi hj li lj => by
        have mixed : ∀ {i j c c' : Nat}, i < bx.length → b0[i]? = some .dead → live bx i → box1[i]? = some (.blk b c) → (g.box.length ≤ j ∨ live b0 j) → box1[j]? = some (.blk b c') → False := fun {i j c c'} h1 h2 h3 hi h4 hj => by
          have hi' := old1 h1 hi
          rcases (where1 j b c' h4 hj).1 with h | ⟨i', h5, h6⟩
          · have := hbox i b c hi'; omega
          · have := hs.boxinj i i' b c c' hi' h6 h3 (lv h5); subst this; exact h5 h2
        rcases liveM li (by have := getElem?_lt hi; simp only at this; omega) with ⟨i1, i2, i3⟩ | ⟨i1, i3⟩ <;> rcases liveM lj (by have := getElem?_lt hj; simp only at this; omega) with ⟨j1, j2, j3⟩ | ⟨j1, j3⟩
        · exact hs.boxinj i j b c c' (old1 i1 hi) (old1 j1 hj) i3 j3
        · exact (mixed i1 i2 i3 hi j1 hj).elim
        · exact (mixed j1 j2 j3 hj i1 hi).elim
        · exact hj1 i j b c c' hi hj i3 j3 i1 j1
      cond := hs.cond
      toklen := by simp [hlen, htl]
      tokin := fun k b h => by
        rw [List.getElem?_append] at h
        split at h
        · have := hs.tokin k b h; exact ⟨this.1, Nat.lt_of_lt_of_le this.2 hkeep.size⟩
        · have := htin _ b h; exact ⟨Nat.le_trans hs.below.size this.1, this.2⟩
      tokbox := fun k b j c hk' hj hl => by
        rw [List.getElem?_append] at hk'
        split at hk'
        · rcases liveM hl (by have := getElem?_lt hj; simp only at this; omega) with ⟨h1, _, h3⟩ | ⟨h1, h3⟩
          · exact hs.tokbox k b j c hk' (old1 h1 hj) h3
          · rcases (where1 j b c h1 hj).1 with h | ⟨i, h5, h6⟩
            · have := htok k b hk'; omega
            · exact hs.tokbox k b i c hk' h6 (lv h5)
        · rcases liveM hl (by have := getElem?_lt hj; simp only at this; omega) with ⟨h1, _, h3⟩ | ⟨h1, h3⟩
          · have := hbox j b c (old1 h1 hj); have := (htin _ b hk').1; omega
          · exact htbx _ b j c hk' hj h3
      tokinj := fun i j b hi hj => by
        rw [List.getElem?_append] at hi hj
        split at hi <;> split at hj
        · exact hs.tokinj i j b hi hj
        · have := htok i b hi; have := (htin _ b hj).1; omega
        · have := htok j b hj; have := (htin _ b hi).1; omega
        · have := htinj _ _ b hi hj; omega }
    exact hnext _ _ _ _ _ _ S (.rep _ _ (hrep.shiftK hs.below.size hlen)) (hk r b1 frs hΦ) (fun h0 => by rw [h0] at hl; cases hl)
  | ins hl Φ h hn hk =>
    obtain ⟨hok, hR⟩ := h
    rw [hrun hok, Oper.upon_enter]
    -- the caller's own values wait
    classical
    let m := bx.length
    let one : Nat × AV → AV × Value := fun p => if inB m (look e p.1) then (look e p.1, a.tmps.getD p.1 undef) else (.any, undef)
    have S0 : Sim mo 0 w0 F0 box0 ((U.filter fun p => inB m p.1) ++ e.map one) g ⟨[], bx, f⟩ { tmps := #[], defers := [] } w := { hs with
      defers := rfl, size := rfl
      env := fun i => .rep _ _ (.any _)
      held := fun p hp => by
        rcases List.mem_append.1 hp with hp | hp
        · exact hs.held p (List.mem_filter.1 hp).1
        · obtain ⟨q, _, rfl⟩ := List.mem_map.1 hp
          show RepT _ _ _ _ _ _ (one q).1 (one q).2
          unfold one
          split
          · exact hs.env q.1
          · exact .rep _ _ (.any _) }
    have hargs : Both (Rep w0.heap.size w g.F g.tok f g.box) vs us.toArray.toList := by
      refine ⟨by simpa using hvs.1, fun i x v hx hv => (hvs.2 i x v hx (by simpa using hv)).plain (fun g y he => ?_)⟩
      have := List.all_eq_true.1 hn x (List.mem_of_getElem? hx)
      rw [he] at this; cases this
    refine (hR w0 F0 box0 _ g w us.toArray S0 (fun p hp => ?_) hargs).mono ?_
    · rcases List.mem_append.1 hp with hp | hp
      · exact of_decide_eq_true (List.mem_filter.1 hp).2
      · obtain ⟨q, _, rfl⟩ := List.mem_map.1 hp
        show inB m (one q).1
        unfold one
        split
        · assumption
        · exact trivial
    rintro en w' ⟨v, g', r, b1, f1, hΦ, rfl, S1, hrep⟩
    have hbl := hs.boxlen
    simp only at hbl
    have back : ∀ x u, RepT w0.heap.size w g.F g.tok f g.box x u → (inB m x → RepT w0.heap.size w' g'.F g'.tok f1 g'.box x u) → RepT w0.heap.size w' g'.F g'.tok f1 g'.box x u := fun x u h hk => by
      rcases h.inB_or with h1 | h1
      · exact h1 _ _ _ _ _ _
      · exact hk (by show inB bx.length x; rw [← hbl]; exact h1)
    have S : Sim mo n w0 F0 box0 U g' ⟨e, b1, f1⟩ a w' := { S1 with
      defers := hs.defers, size := hs.size
      env := fun i => by
        by_cases hi : ∃ y, (i, y) ∈ e
        · obtain ⟨y, hy⟩ := hi
          refine back _ _ (hs.env i) fun hb => ?_
          have := S1.held (one (i, y)) (List.mem_append.2 (.inr (List.mem_map.2 ⟨_, hy, rfl⟩)))
          have e1 : one (i, y) = (look e i, a.tmps.getD i undef) := if_pos hb
          rw [e1] at this; exact this
        · have : look e i = .any := look_none fun y hy => hi ⟨y, hy⟩
          show RepT _ _ _ _ _ _ (look e i) _
          rw [this]; exact .rep _ _ (.any _)
      held := fun p hp => back _ _ (hs.held p hp) fun hb => S1.held p (List.mem_append.2 (.inl (List.mem_filter.2 ⟨hp, decide_eq_true hb⟩))) }
    exact hnext _ _ _ _ _ _ S (.rep _ _ hrep) (hk r b1 f1 hΦ) (fun h0 => by rw [h0] at hl; cases hl)

theorem leads_calls (hs : Sim mo n w0 F0 box0 U g ⟨e, bx, f⟩ a w) {fid : FuncId} {k : AV → List ABox → Fr → Prop} {vs : List AV} {us : List Value} (hvs : Both (RepT w0.heap.size w g.F g.tok f g.box) vs us)
    (hrun : okFn P fid = true → (execOp a.eval o).run P w = .ok (.enter fid us.toArray) w) {lend : Bool} (h : ACall (ACon mo P) lend fid vs bx f k) : Leads mo P n w0 F0 box0 U e a o w k :=
  fun next Q hnext => leads_callsB hs hvs hrun h next Q fun g' bx' f' x v w' S hx hk _ => hnext g' bx' f' x v w' S hx hk

theorem clo_rep {w0 w : World} {g : G} {f : Fr} {a : Act} {fid : FuncId} {first caps : Array Operand} {xs ys : List AV}
    (hxs : Both (RepT w0.heap.size w g.F g.tok f g.box) xs (first.toList.map a.eval)) (hys : Both (RepT w0.heap.size w g.F g.tok f g.box) ys (caps.toList.map a.eval)) (hk : noCond xs = true ∧ noCond ys = true) : RepT w0.heap.size w g.F g.tok f g.box (.clo fid xs ys) (.func (.func fid) (first.map a.eval) (caps.map a.eval)) := by
  have get : ∀ {xs : List AV} {l : Array Operand}, Both (RepT w0.heap.size w g.F g.tok f g.box) xs (l.toList.map a.eval) → noCond xs = true → xs.length = (l.map a.eval).size ∧ ∀ (i : Nat) c, xs[i]? = some c → Rep w0.heap.size w g.F g.tok f g.box c ((l.map a.eval).getD i undef) := fun {xs l} h hn =>
    ⟨by have := h.1; simpa using this, fun i c hc => by
      have hi : i < l.size := by have := getElem?_lt hc; have := h.1; simp at this; omega
      have h1 := h.2 i c ((l.map a.eval).getD i undef) hc (by simp [Array.getD, hi])
      refine h1.plain (fun g y he => ?_)
      have := List.all_eq_true.1 hn c (List.mem_of_getElem? hc)
      rw [he] at this; cases this⟩
  obtain ⟨l1, r1⟩ := get hxs hk.1
  obtain ⟨l2, r2⟩ := get hys hk.2
  exact .rep _ _ (.clo fid xs ys _ _ l1 l2 r1 r2)
theorem leads_clo (hs : Sim mo n w0 F0 box0 U g ⟨e, bx, f⟩ a w) {fid : FuncId} {first caps : Array Operand} {k : AV → List ABox → Fr → Prop} (ho : o.op = .makeFunc (.func fid) first caps) {xs ys : List AV}
    (hxs : Both (RepT w0.heap.size w g.F g.tok f g.box) xs (first.toList.map a.eval)) (hys : Both (RepT w0.heap.size w g.F g.tok f g.box) ys (caps.toList.map a.eval)) (hk : k (.clo fid xs ys) bx f ∧ noCond xs = true ∧ noCond ys = true) : Leads mo P n w0 F0 box0 U e a o w k := by
  exact leads_val (v := .func (.func fid) (first.map a.eval) (caps.map a.eval)) (by simp [execOp, ho, Instr.makeFunc]) hs (clo_rep hxs hys hk.2) hk.1

theorem list_two {α : Type} {l : Array α} {d : α} (h : l.size = 2) (f0 : α) (h0 : l.toList.getD 0 d = f0) (f1 : α) (h1 : l.toList.getD 1 d = f1) : l = #[f0, f1] := by
  rcases l with ⟨l⟩
  match l, h with
  | [x, y], _ => simp at h0 h1; rw [h0, h1]

/-- Every operation does what the evaluator says. -/
theorem aOp_sound (ops : List Oper) (hs : Sim mo n w0 F0 box0 U g ⟨e, bx, f⟩ a w) {k : AV → List ABox → Fr → Prop} (h : aOp (ACon mo P) (cOp P ops o) e bx f k) : Leads mo P n w0 F0 box0 U e a o w k := by
  have rest : ∀ {op}, aOp (ACon mo P) op e bx f k = aVal op true e bx (fun v => k v bx f) → cOp P ops o = op → Leads mo P n w0 F0 box0 U e a o w k := fun {op} he hop =>
    leads_does hs (aVal_sound ops hs.env hs.boxrep (by rw [← hop] at he; rw [← he]; exact h))
  cases hop : o.op with
  | move x =>
    have hc : cOp P ops o = .mv x := by simp [cOp, hop]
    rw [hc] at h
    exact leads_val (by simp [execOp, hop]) hs (ev_sound hs.env x) h
  | assign x =>
    have hc : cOp P ops o = .mv x := by simp [cOp, hop]
    rw [hc] at h
    exact leads_val (by simp [execOp, hop]) hs (ev_sound hs.env x) h
  | box t x =>
    have hc : cOp P ops o = .box x := by simp [cOp, hop]
    rw [hc] at h
    exact leads_box hs hop h
  | alloc t =>
    unfold cOp at h
    simp only [hop] at h
    split at h
    · rename_i z hz
      split at h
      · rename_i h1; exact leads_alloc hs hop hz h1 h
      · exact h.no
    · exact h.no
  | makeSlice t l c =>
    unfold cOp at h
    simp only [hop] at h
    split at h
    · rename_i hh
      simp only [Bool.and_eq_true] at hh
      exact leads_make hs hop hh.1.1 hh.1.2 hh.2 h
    · exact h.no
  | build t ps =>
    unfold cOp at h
    simp only [hop] at h
    split at h
    · rename_i places z hp
      split at h
      · rename_i hh
        rw [Bool.and_eq_true] at hh
        exact leads_build hs hop hp hh.1 hh.2 h
      · exact h.no
    · exact h.no
  | buildSlice t m ps =>
    unfold cOp at h
    simp only [hop] at h
    split at h
    · rename_i hh
      simp only [Bool.and_eq_true, decide_eq_true_eq, beq_iff_eq] at hh
      exact leads_bslice hs hop hh.1.1 hh.1.2 hh.2 h
    · exact h.no
  | store t p x =>
    unfold cOp at h
    simp only [hop] at h
    split at h
    · rename_i hok; exact leads_store hs hop hok h
    · exact h.no
  | range t x =>
    unfold cOp at h
    simp only [hop] at h
    split at h
    · rename_i ht; exact leads_range hs hop ht h
    · exact h.no
  | makeMap t r =>
    unfold cOp at h
    simp only [hop] at h
    split at h
    · split at h
      · exact leads_mmap hs hop h
      · split at h
        · exact leads_vmap hs hop h
        · exact h.no
    · exact h.no
  | mapUpdate t x i v =>
    unfold cOp at h
    simp only [hop] at h
    split at h
    · rename_i ht; exact leads_mput hs hop ht h
    · split at h
      · rename_i q hq; exact leads_vput hs hop hq h
      · exact h.no
  | next x s =>
    unfold cOp at h
    simp only [hop] at h
    split at h
    · rename_i hh; rw [hh] at hop; exact leads_next hs hop h
    · exact h.no
  | makeFunc fn first caps =>
    unfold cOp at h
    simp only [hop] at h
    split at h
    · rename_i fid
      split at h
      · split at h
        · exact h.no
        · obtain ⟨xs, h, hxs⟩ := evs_sound hs.env h
          obtain ⟨ys, h, hys⟩ := evs_sound hs.env h
          obtain ⟨⟨hn1, hn2⟩, h⟩ := h
          exact leads_clo hs hop hxs hys ⟨h, hn1, hn2⟩
      · exact h.no
    · exact h.no
  | call c =>
    by_cases hb : ∃ fid, c.callee = .value (.func fid)
    · obtain ⟨fid, hc⟩ := hb
      unfold cOp at h
      simp only [hop, hc] at h
      split at h
      · rename_i fn hf
        split at h
        · exact h.no
        · rename_i hn
          simp only [aOp] at h
          obtain ⟨vs, h, hvs⟩ := evs_sound hs.env h
          exact leads_calls hs hvs (fun _ => by rw [run_call hop hc hf (Bool.eq_false_iff.2 hn) w]; congr 2; apply Array.ext'; simp) h
      · exact h.no
    by_cases hb2 : ∃ t, c.callee = .value (.tmp t)
    · obtain ⟨t, hc⟩ := hb2
      unfold cOp at h
      simp only [hop, hc, aOp] at h
      obtain ⟨xv, h1, hx⟩ := evG_sound hs.env h
      obtain ⟨vs, h2, hvs⟩ := evs_sound hs.env h1
      split at h2
      · rename_i fid xs ys
        generalize hv : a.eval (.tmp t) = v at hx
        have hx := hx.clo_inv
        cases hx with
        | clo _ _ _ vf vc hl1 hl2 hr1 hr2 =>
          have both : ∀ {xs : List AV} {vf : Array Value}, xs.length = vf.size → (∀ (i : Nat) c, xs[i]? = some c → Rep w0.heap.size w g.F g.tok f g.box c (vf.getD i undef)) → Both (RepT w0.heap.size w g.F g.tok f g.box) xs vf.toList := fun {xs vf} hl hr =>
            ⟨by simpa using hl, fun i x u hx hu => by
              have hu' : vf[i]? = some u := by simpa using hu
              have hi := (Array.getElem?_eq_some_iff.1 hu').1
              have e1 : vf.getD i undef = u := by simp [Array.getD, hi, (Array.getElem?_eq_some_iff.1 hu').2]
              exact .rep _ _ (e1 ▸ hr i x hx)⟩
          have app : ∀ {xs ys : List AV} {us ws : List Value}, Both (RepT w0.heap.size w g.F g.tok f g.box) xs us → Both (RepT w0.heap.size w g.F g.tok f g.box) ys ws → Both (RepT w0.heap.size w g.F g.tok f g.box) (xs ++ ys) (us ++ ws) := fun {xs ys us ws} h1 h2 =>
            ⟨by simp [h1.1, h2.1], fun i x u hx hu => by
              rw [List.getElem?_append] at hx hu
              rw [← h1.1] at hu
              split at hx
              · rename_i hlt; rw [if_pos hlt] at hu; exact h1.2 i x u hx hu
              · rename_i hlt; rw [if_neg hlt] at hu; exact h2.2 _ x u hx hu⟩
          exact leads_calls hs (app (app (both hl1 hr1) hvs) (both hl2 hr2)) (fun hok => by rw [run_callv hop hc hv hok w]; congr 2; apply Array.ext'; simp) h2
      · exact h2.no
    by_cases ha : c.callee = .builtin .append
    · unfold cOp at h
      simp only [hop, ha] at h
      split at h
      · rename_i hh
        simp only [Bool.and_eq_true, beq_iff_eq] at hh
        refine leads_append (t := c.argTypes.getD 0 0) hs (x := arg c.args.toList 0) (y := arg c.args.toList 1) ?_ hh.1.1 h
        rw [hop]
        congr 1
        rcases c with ⟨cal, args, tys⟩
        simp only at ha hh ⊢
        rw [ha]
        congr 1
        · exact list_two hh.2 _ rfl _ rfl
        · apply Array.ext'; exact hh.1.2
      · exact h.no
    · -- len
      refine rest (op := cOp P ops o) ?_ rfl
      unfold cOp
      simp only [hop]
      split
      · rename_i b hcb
        split
        · split
          · split <;> rfl
          · split <;> rfl
          · split <;> rfl
          · rfl
        · exact absurd hcb ha
        · split <;> rfl
        · split <;> rfl
        · rfl
      · rename_i v hcv
        split
        · rename_i fid; exact absurd ⟨fid, hcv⟩ hb
        · rename_i t; exact absurd ⟨t, hcv⟩ hb2
        · rfl
      · rfl
  | _ =>
    refine rest (op := cOp P ops o) ?_ rfl
    unfold cOp
    simp only [hop]
    repeat' split
    all_goals rfl
end
end Abs
end Go.Proofs.Ytkbblglbbfdnpaa
namespace Go.Proofs.Ytkbblglbbfdnpaa
namespace Abs
variable {mo : Bool} {U : List (AV × Value)}
open Go.RowKit

section
variable {P : Program} {n : Nat} {w0 : World} {F0 : Nat → Nat} {box0 : List BId} {g : G} {e : Env} {bx : List ABox} {f : Fr} {a : Act} {w : World} {o : Oper}

theorem guard_sound {B : Nat} {F : Nat → Nat} {tok : List (Option Nat)} {fr : Fr} {box : List BId} {ops : Array Oper} {j : Nat} {want : Bool} {K : Bool → Prop} (he : EnvOk B w F tok fr box e a)
    (hg : o.guard = some (j, want)) (hd : ((ops[j]?).bind (·.dst)).isSome = true) (hn : ∀ d, (ops[j]?).bind (·.dst) = some d → d < a.tmps.size)
    (h : guardOf want (look e (dstAt ops.toList j)) K) : ∃ gd, K gd ∧ Region.wanted o (yielded ops a.tmps) = gd := by
  obtain ⟨d, hd⟩ := Option.isSome_iff_exists.1 hd
  have hdn := hn d hd
  have hda : dstAt ops.toList j = d := by unfold dstAt; rw [Array.getElem?_toList, hd]; rfl
  rw [hda] at h
  have hx := he d
  have hget : a.tmps[d]? = some (a.tmps.getD d undef) := by simp [Array.getD, hdn]
  have hy : ∀ v, a.tmps.getD d undef = v → yielded ops a.tmps j = match v with | .bool b => some b | _ => none := fun v hv => by
    unfold yielded
    rw [hd]
    simp only [Option.bind_some, hget, hv]
    cases v <;> rfl
  unfold guardOf at h
  split at h
  · rename_i b hl
    rw [hl] at hx
    cases want with
    | true => exact ⟨_, h, by simp only [Region.wanted, hg, hy _ hx.val_inv]; cases b <;> rfl⟩
    | false => exact ⟨_, h, by simp only [Region.wanted, hg, hy _ hx.val_inv]; cases b <;> rfl⟩
  · rename_i gg b hl
    rw [hl] at hx
    cases gg with
    | true =>
      cases want with
      | true => exact ⟨_, h, by simp only [Region.wanted, hg, hy _ (hx.cond_inv.1 rfl).val_inv]; cases b <;> rfl⟩
      | false => exact ⟨_, h, by simp only [Region.wanted, hg, hy _ (hx.cond_inv.1 rfl).val_inv]; cases b <;> rfl⟩
    | false =>
      cases want with
      | true => exact ⟨_, h, by simp only [Region.wanted, hg, hy _ (hx.cond_inv.2 rfl), undef]; rfl⟩
      | false => exact ⟨_, h, by simp only [Region.wanted, hg, hy _ (hx.cond_inv.2 rfl), undef]; rfl⟩
  · exact h.no

theorem cOp_call {ops : List Oper} {fid : Nat} {args : List Operand} (h : cOp P ops o = .call fid args) :
    ∃ c fn, o.op = .call c ∧ c.callee = .value (.func fid) ∧ P.funcs[fid]? = some fn ∧ (fn.name == "runtime.NumGoroutine" || fn.body.isNone) = false ∧ args = c.args.toList := by
  unfold cOp at h
  cases hop : o.op <;> simp only [hop] at h
  case call c =>
    split at h
    · split at h
      · repeat' split at h
        all_goals cases h
      · split at h <;> cases h
      · split at h <;> cases h
      · split at h <;> cases h
      · cases h
    · rename_i v hc
      split at h
      · rename_i fid'
        split at h
        · rename_i fn hf
          split at h
          · cases h
          · rename_i hn
            cases h
            exact ⟨c, fn, rfl, hc, hf, Bool.eq_false_iff.2 hn, rfl⟩
        · cases h
      · cases h
      · cases h
    · cases h
  all_goals first | cases h | (repeat' split at h) <;> cases h

theorem evs_mono : ∀ {l : List Operand} {k1 k2 : List AV → Prop}, (∀ vs, k1 vs → k2 vs) → evs true e l k1 → evs true e l k2
  | [], _, _, hk, h => hk _ h
  | x :: l, k1, k2, hk, h => by
    unfold evs evG unG at h ⊢
    generalize ev e x = y at h ⊢
    cases y with
    | cond gg y => exact ⟨h.1, evs_mono (fun vs h => hk _ h) h.2⟩
    | _ => exact evs_mono (fun vs h => hk _ h) h

theorem cOp_build {ops : List Oper} {z : List Value} {pl : List (Nat × Nat)} {qs : List Operand} (h : cOp P ops o = .build z pl qs) :
    ∃ t ps places zv, o.op = .build t ps ∧ structPlaces P t = some (places, zv) ∧ zv.cells.all (·.oneCell') = true ∧ ps.toList.all (fun p => match places[p.1]? with | some q => decide (q.1 + q.2 ≤ zv.cells.size) | none => false) = true ∧
      z = zv.cells.toList ∧ pl = (ps.toList.map fun p => places.getD p.1 (0, 0)) ∧ qs = ps.toList.map (·.2) := by
  unfold cOp at h
  cases hop : o.op <;> simp only [hop] at h
  case build t ps =>
    split at h
    · rename_i places zv hp
      split at h
      · rename_i hh
        rw [Bool.and_eq_true] at hh
        cases h
        exact ⟨_, _, _, _, rfl, hp, hh.1, hh.2, rfl, rfl, rfl⟩
      · cases h
    · cases h
  all_goals first | cases h | ((repeat' split at h) <;> cases h)
theorem cOp_clo {ops : List Oper} {f : FuncId} {ps qs : List Operand} (h : cOp P ops o = .clo f ps qs) : ∃ first caps, o.op = .makeFunc (.func f) first caps ∧ ps = first.toList ∧ qs = caps.toList := by
  unfold cOp at h
  cases hop : o.op <;> simp only [hop] at h
  case makeFunc fn first caps =>
    repeat' split at h
    all_goals first | (cases h; done) | (cases h; exact ⟨_, _, rfl, rfl, rfl⟩)
  all_goals first | cases h | ((repeat' split at h) <;> cases h)
theorem does_clo (hs : Sim mo n w0 F0 box0 U g ⟨e, bx, f⟩ a w) {fid : FuncId} {first caps : Array Operand} {k : AV → Prop} (ho : o.op = .makeFunc (.func fid) first caps)
    (h : evs true e first.toList fun xs => evs true e caps.toList fun ys => Need (noCond xs = true ∧ noCond ys = true) (k (.clo fid xs ys))) : Does P w0.heap.size w g.F g.tok f g.box a o k := by
  obtain ⟨xs, h, hxs⟩ := evs_sound hs.env h
  obtain ⟨ys, h, hys⟩ := evs_sound hs.env h
  obtain ⟨hn, h⟩ := h
  exact ⟨_, _, h, clo_rep hxs hys hn, fun w' _ => by simp [execOp, ho, Instr.makeFunc]⟩
theorem aValB_sound (ops : List Oper) (hs : Sim mo n w0 F0 box0 U g ⟨e, bx, f⟩ a w) {k : AV → Prop} (h : aValB (cOp P ops o) true e bx k) : Does P w0.heap.size w g.F g.tok f g.box a o k := by
  unfold aValB at h
  split at h
  · rename_i z pl qs hop
    obtain ⟨t, ps, places, zv, h1, h2, h3, h4, rfl, rfl, rfl⟩ := cOp_build hop
    exact does_build hs h1 h2 h3 h4 h
  · rename_i gf ps qs hop
    obtain ⟨first, caps, h1, rfl, rfl⟩ := cOp_clo hop
    exact does_clo hs h1 h
  · exact aVal_sound ops hs.env hs.boxrep h

theorem aQuiet_leads (ops : List Oper) (hs : Sim mo n w0 F0 box0 U g ⟨e, bx, f⟩ a w) {k : AV → Prop} (h : aQuiet (ACon mo P) (cOp P ops o) true e bx k) : Leads mo P n w0 F0 box0 U e a o w (fun x bx' f' => bx' = bx ∧ f' = f ∧ k x) := by
  unfold aQuiet at h
  split at h
  · rename_i fid args hop
    obtain ⟨c, fn, h1, h2, h3, h4, rfl⟩ := cOp_call hop
    obtain ⟨vs, hv, hvs⟩ := evs_sound hs.env h
    refine leads_calls (lend := true) hs hvs (fun _ => by rw [run_call h1 h2 h3 h4 w]; congr 2; apply Array.ext'; simp) ?_
    obtain ⟨ys, r, hR, hr, hv, hk⟩ := hv
    exact .scal ys r (hR rfl) hr (hv rfl) ⟨rfl, rfl, hk⟩
  · have := aValB_sound ops hs h
    obtain ⟨x, v, hk, hx, hg⟩ := this
    exact leads_val (hg w (Below.refl _ _)) hs hx ⟨rfl, rfl, hk⟩

theorem aGuard_leads (ops : List Oper) (hs : Sim mo n w0 F0 box0 U g ⟨e, bx, f⟩ a w) {k : AV → Prop} (h : aGuard (ACon mo P) (cOp P ops o) true e bx k) : Leads mo P n w0 F0 box0 U e a o w (fun x bx' f' => bx' = bx ∧ f' = f ∧ k x) := by
  unfold aGuard at h
  split at h
  · rename_i fid args hop
    obtain ⟨c, fn, h1, h2, h3, h4, rfl⟩ := cOp_call hop
    obtain ⟨vs, hv, hvs⟩ := evs_sound hs.env h
    refine leads_calls (lend := true) hs hvs (fun _ => by rw [run_call h1 h2 h3 h4 w]; congr 2; apply Array.ext'; simp) ?_
    rcases hv with ⟨ys, r, hR, hr, hv, hk⟩ | ⟨ys, x, hR, hv, ho, hk⟩
    · exact .scal ys r (hR rfl) hr (hv rfl) ⟨rfl, rfl, hk⟩
    · exact .old ys x (hR rfl) (hv rfl) ho ⟨rfl, rfl, hk⟩
  · have := aValB_sound ops hs h
    obtain ⟨x, v, hk, hx, hg⟩ := this
    exact leads_val (hg w (Below.refl _ _)) hs hx ⟨rfl, rfl, hk⟩

theorem aOps_sound {ops : Array Oper} {Q : Exit → Act → World → Prop} {k : Env → List ABox → Fr → Prop} (hgd : guardsOk ops.toList = true) (hdst : dstsOk n ops.toList = true)
    (hk : ∀ g' e' bx' f' a' w', Sim mo n w0 F0 box0 U g' ⟨e', bx', f'⟩ a' w' → k e' bx' f' → Q .normal a' w') :
    ∀ (l : List Oper), (∀ o ∈ l, o ∈ ops.toList) → ∀ (g : G) (e : Env) (bx : List ABox) (f : Fr) (a : Act) (w : World), Sim mo n w0 F0 box0 U g ⟨e, bx, f⟩ a w →
      aOps (ACon mo P) k (l.map fun o => ⟨o.dst, o.guard.map fun g => (dstAt ops.toList g.1, g.2), cOp P ops.toList o⟩) e bx f → wpList P ops Q l a w
  | [], _, g, e, bx, f, a, w, hs, h => hk _ _ _ _ _ _ hs h
  | o :: l, hl, g, e, bx, f, a, w, hs, h => by
    have ih := aOps_sound hgd hdst hk l (fun o ho => hl o (by simp [ho]))
    have hd : ∀ i, o.dst = some i → i < n := fun i hi => by
      have := List.all_eq_true.1 hdst o (hl o (by simp))
      rw [hi] at this; simpa using this
    cases hgu : o.guard with
    | none =>
      simp only [List.map_cons, aOps, hgu, Option.map_none] at h
      unfold wpList
      have hw : Region.wanted o (yielded ops a.tmps) = true := by simp [Region.wanted, hgu]
      rw [if_pos hw]
      exact .inl (aOp_sound ops.toList hs h _ _ fun g' bx' f' x v w' S hx hk' => ih g' _ bx' f' _ w' (S.put hd hx) hk')
    | some jw =>
      obtain ⟨j, want⟩ := jw
      simp only [List.map_cons, aOps, hgu, Option.map_some] at h
      have hjd : ((ops[j]?).bind (·.dst)).isSome = true := by
        have := List.all_eq_true.1 hgd o (hl o (by simp))
        rw [hgu] at this
        simpa using this
      obtain ⟨gd, hq, hw⟩ := guard_sound hs.env hgu hjd (fun d hd' => by
        rw [hs.size]
        obtain ⟨oj, hoj, hdj⟩ := Option.bind_eq_some_iff.1 hd'
        have := List.all_eq_true.1 hdst oj (by simpa using Array.mem_of_getElem? hoj)
        rw [hdj] at this; simpa using this) h
      unfold wpList
      rw [hw]
      split at hq
      · cases gd with
        | true =>
          rw [if_pos rfl]
          cases hq with
          | quiet hq =>
            refine .inl (aGuard_leads ops.toList hs hq _ _ fun g' bx' f' x v w' S hx hk' => ?_)
            obtain ⟨rfl, rfl, hk'⟩ := hk'
            exact ih g' _ bx' f' _ w' (S.put hd (.cond true x v (fun _ => hx) (fun h => by cases h))) hk'
          | fork _ ht _ => exact .inl (aOp_sound ops.toList hs (ht rfl) _ _ fun g' bx' f' x v w' S hx hk' => ih g' _ bx' f' _ w' (S.put hd hx) hk')
        | false =>
          rw [if_neg (by simp)]
          cases hq with
          | quiet hq =>
            obtain ⟨x, hx⟩ := aGuard_ex hq
            exact ih g _ bx f _ w (hs.put hd (.cond false x undef (fun h => by cases h) (fun _ => rfl))) hx
          | fork x _ hf => exact ih g _ bx f _ w (hs.put hd (.cond false x undef (fun h => by cases h) (fun _ => rfl))) (hf rfl)
      · cases gd with
        | true =>
          rw [if_pos rfl]
          refine .inl (aGuard_leads ops.toList hs hq _ _ fun g' bx' f' x v w' S hx hk' => ?_)
          obtain ⟨rfl, rfl, hk'⟩ := hk'
          exact ih g' _ bx' f' _ w' (S.put hd (.cond true x v (fun _ => hx) (fun h => by cases h))) hk'
        | false =>
          rw [if_neg (by simp)]
          obtain ⟨x, hx⟩ := aGuard_ex hq
          exact ih g _ bx f _ w (hs.put hd (.cond false x undef (fun h => by cases h) (fun _ => rfl))) hx

/-- one operation of a region that draws its order -/
theorem aQuiet_quiet (ops : List Oper) (hs : Sim mo n w0 F0 box0 U g ⟨e, bx, f⟩ a w) {k : AV → Prop} (h : aQuiet (ACon mo P) (cOp P ops o) true e bx k) :
    ∃ x v, k x ∧ RepT w0.heap.size w g.F g.tok f g.box x v ∧ ∀ w', Bel mo w.heap.size w w' → o.quietAt P a (Bel mo w.heap.size w) w' v := by
  unfold aQuiet at h
  split at h
  · rename_i fid args hop
    obtain ⟨c, fn, h1, h2, h3, h4, rfl⟩ := cOp_call hop
    obtain ⟨vs, hv, hvs⟩ := evs_sound hs.env h
    obtain ⟨ys, r, hR, hr, hv, hk⟩ := hv
    obtain ⟨v0, hv0⟩ := scalR_rep hr
    refine ⟨r, v0, hk, .rep _ _ hv0.1, fun w' hw => ?_⟩
    unfold Oper.quietAt
    rw [run_call h1 h2 h3 h4 w']
    have S := hs.world hw
    obtain ⟨_, hR⟩ := hR rfl
    refine ⟨rfl, (hR w' (bigF w' g.F) (c.args.map a.eval) S.condNow.none (fun b hb => bigF_out hb (S.out b hb)) ?_).mono ?_⟩
    · have L := later_below hs hw
      have hvs' : Both (RepT w0.heap.size w' g.F g.tok f g.box) vs (c.args.toList.map a.eval) := ⟨hvs.1, fun i x v hx hv => (hvs.2 i x v hx hv).later L (fun _ _ h => h)⟩
      have := both_sees hvs' (hv rfl) (R' := Rep w'.heap.size w' (bigF w' g.F) [] [] []) (fun x y v hS hx => hS (bigF w' g.F) S.boxrep (bigF_le w' g.F) bigF_cells hx w'.heap.size [])
      simpa using this
    · rintro en w'' ⟨v, F', tok, box, rfl, hb, _, _, _, _, _, hrep⟩
      exact ⟨by rw [hv0.2 v hrep], hw.trans (hb.less hw.size)⟩
  · obtain ⟨x, v, hk, hx, hg⟩ := aValB_sound ops hs h
    refine ⟨x, v, hk, hx, fun w' hw => ?_⟩
    unfold Oper.quietAt
    rw [hg w' hw.toBelow]
    exact ⟨rfl, rfl⟩

theorem aDraw_sound {ops : Array Oper} {Q : Act → Prop} {k : Env → Prop} (hgd : guardsOk ops.toList = true) (hdst : dstsOk n ops.toList = true) {bx : List ABox} {f : Fr}
    (hk : ∀ e' a', Sim mo n w0 F0 box0 U g ⟨e', bx, f⟩ a' w → k e' → Q a') :
    ∀ (l : List Oper), (∀ o ∈ l, o ∈ ops.toList) → ∀ (e : Env) (a : Act), Sim mo n w0 F0 box0 U g ⟨e, bx, f⟩ a w →
      aDraw (ACon mo P) k bx (l.map fun o => ⟨o.dst, o.guard.map fun g => (dstAt ops.toList g.1, g.2), cOp P ops.toList o⟩) e → wpQuiet P ops (Bel mo w.heap.size w) Q l a
  | [], _, e, a, hs, h => hk _ _ hs h
  | o :: l, hl, e, a, hs, h => by
    have ih := aDraw_sound hgd hdst hk l (fun o ho => hl o (by simp [ho]))
    have hd : ∀ i, o.dst = some i → i < n := fun i hi => by
      have := List.all_eq_true.1 hdst o (hl o (by simp))
      rw [hi] at this; simpa using this
    have one : ∀ {x : AV} {v : Value}, (∀ w', Bel mo w.heap.size w w' → o.quietAt P a (Bel mo w.heap.size w) w' v) → RepT w0.heap.size w g.F g.tok f g.box x v →
        aDraw (ACon mo P) k bx (l.map fun o => ⟨o.dst, o.guard.map fun g => (dstAt ops.toList g.1, g.2), cOp P ops.toList o⟩) (put e o.dst x) →
        o.quiet P a (Bel mo w.heap.size w) (wpQuiet P ops (Bel mo w.heap.size w) Q l) := fun {x v} hq hx hk' => ⟨v, hq, ih _ _ (hs.put hd hx) hk'⟩
    cases hgu : o.guard with
    | none =>
      unfold wpQuiet
      have hw : Region.wanted o (yielded ops a.tmps) = true := by simp [Region.wanted, hgu]
      rw [if_pos hw]
      simp only [List.map_cons, aDraw, hgu, Option.map_none] at h
      split at h
      · rename_i x hop
        have hmv : o.op = .move x ∨ o.op = .assign x := by
          unfold cOp at hop
          cases ho : o.op <;> simp only [ho] at hop
          case move y => cases hop; exact .inl rfl
          case assign y => cases hop; exact .inr rfl
          all_goals first | cases hop | ((repeat' split at hop) <;> cases hop)
        exact one (v := a.eval x) (fun w' _ => by
          unfold Oper.quietAt
          have : (execOp a.eval o).run P w' = .ok (.value (a.eval x)) w' := by rcases hmv with h | h <;> simp [execOp, h]
          rw [this]; exact ⟨rfl, rfl⟩) (ev_sound hs.env x) h
      · obtain ⟨x, v, hk', hx, hq⟩ := aQuiet_quiet ops.toList hs h
        exact one hq hx hk'
    | some jw =>
      obtain ⟨j, want⟩ := jw
      simp only [List.map_cons, aDraw, hgu, Option.map_some] at h
      have hjd : ((ops[j]?).bind (·.dst)).isSome = true := by
        have := List.all_eq_true.1 hgd o (hl o (by simp))
        rw [hgu] at this
        simpa using this
      obtain ⟨gd, hq, hw⟩ := guard_sound hs.env hgu hjd (fun d hd' => by
        rw [hs.size]
        obtain ⟨oj, hoj, hdj⟩ := Option.bind_eq_some_iff.1 hd'
        have := List.all_eq_true.1 hdst oj (by simpa using Array.mem_of_getElem? hoj)
        rw [hdj] at this; simpa using this) h
      unfold wpQuiet
      rw [hw]
      cases gd with
      | true =>
        rw [if_pos rfl]
        obtain ⟨x, v, hk', hx, hq'⟩ := aQuiet_quiet ops.toList hs hq
        exact ⟨v, hq', ih _ _ (hs.put hd (.cond true x v (fun _ => hx) (fun h => by cases h))) hk'⟩
      | false =>
        rw [if_neg (by simp)]
        obtain ⟨x, hx⟩ := aQuiet_ex hq
        exact ih _ _ (hs.put hd (.cond false x undef (fun h => by cases h) (fun _ => rfl))) hx
/-! a region that draws its order: reads come first, calls wait for one another -/
theorem aQuiet_leadsB (ops : List Oper) (hs : Sim mo n w0 F0 box0 U g ⟨e, bx, f⟩ a w) {k : AV → Prop} (h : aQuiet (ACon mo P) (cOp P ops o) true e bx k) :
    ∀ (next : Act → World → Prop) (Q : Exit → Act → World → Prop),
      (∀ g' x v w', Sim mo n w0 F0 box0 U g' ⟨e, bx, f⟩ a w' → RepT w0.heap.size w' g'.F g'.tok f g'.box x v → k x → Bel mo w.heap.size w w' → (quietOp o = true → w' = w) → TokNew w g.tok g'.tok → next (a.put o.dst v) w') → o.wp P a w next Q := by
  intro next Q hnext
  unfold aQuiet at h
  split at h
  · rename_i fid args hop
    obtain ⟨c, fn, h1, h2, h3, h4, rfl⟩ := cOp_call hop
    obtain ⟨vs, hv, hvs⟩ := evs_sound hs.env h
    have hq : ¬ quietOp o = true := by unfold quietOp; simp [h1, h2]
    obtain ⟨ys, r, hR, hr, hv, hk⟩ := hv
    refine leads_callsB (lend := false) (k := fun x bx' f' => bx' = bx ∧ f' = f ∧ k x) hs hvs (fun _ => by rw [run_call h1 h2 h3 h4 w]; congr 2; apply Array.ext'; simp) (.scal ys r (hR rfl) hr (hv rfl) ⟨rfl, rfl, hk⟩) next Q ?_
    rintro g' bx' f' x v w' S hx ⟨rfl, rfl, hk⟩ hb
    exact hnext g' x v w' S hx hk (hb rfl).1 (fun h => absurd h hq) (hb rfl).2
  · obtain ⟨x, v, hk, hx, hg⟩ := aValB_sound ops hs h
    unfold Oper.wp
    rw [hg w (Below.refl _ _)]
    exact hnext g x v w hs hx hk (Bel.refl _ _) (fun _ => rfl) (TokNew.refl _ _)

theorem aGuard_leadsB (ops : List Oper) (hs : Sim mo n w0 F0 box0 U g ⟨e, bx, f⟩ a w) {k : AV → Prop} (h : aGuard (ACon mo P) (cOp P ops o) true e bx k) :
    ∀ (next : Act → World → Prop) (Q : Exit → Act → World → Prop),
      (∀ g' x v w', Sim mo n w0 F0 box0 U g' ⟨e, bx, f⟩ a w' → RepT w0.heap.size w' g'.F g'.tok f g'.box x v → k x → Bel mo w.heap.size w w' → (quietOp o = true → w' = w) → TokNew w g.tok g'.tok → next (a.put o.dst v) w') → o.wp P a w next Q := by
  intro next Q hnext
  unfold aGuard at h
  split at h
  · rename_i fid args hop
    obtain ⟨c, fn, h1, h2, h3, h4, rfl⟩ := cOp_call hop
    obtain ⟨vs, hv, hvs⟩ := evs_sound hs.env h
    have hq : ¬ quietOp o = true := by unfold quietOp; simp [h1, h2]
    have hA : ACall (ACon mo P) false fid vs bx f (fun x bx' f' => bx' = bx ∧ f' = f ∧ k x) := by
      rcases hv with ⟨ys, r, hR, hr, hv, hk⟩ | ⟨ys, x, hR, hv, ho, hk⟩
      · exact .scal ys r (hR rfl) hr (hv rfl) ⟨rfl, rfl, hk⟩
      · exact .old ys x (hR rfl) (hv rfl) ho ⟨rfl, rfl, hk⟩
    refine leads_callsB (lend := false) (k := fun x bx' f' => bx' = bx ∧ f' = f ∧ k x) hs hvs (fun _ => by rw [run_call h1 h2 h3 h4 w]; congr 2; apply Array.ext'; simp) hA next Q ?_
    rintro g' bx' f' x v w' S hx ⟨rfl, rfl, hk⟩ hb
    exact hnext g' x v w' S hx hk (hb rfl).1 (fun h => absurd h hq) (hb rfl).2
  · obtain ⟨x, v, hk, hx, hg⟩ := aValB_sound ops hs h
    unfold Oper.wp
    rw [hg w (Below.refl _ _)]
    exact hnext g x v w hs hx hk (Bel.refl _ _) (fun _ => rfl) (TokNew.refl _ _)

theorem mv_inv {ops : List Oper} {x : Operand} (hop : cOp P ops o = .mv x) : ∀ w', (execOp a.eval o).run P w' = .ok (.value (a.eval x)) w' := by
  have hmv : o.op = .move x ∨ o.op = .assign x := by
    unfold cOp at hop
    cases ho : o.op <;> simp only [ho] at hop
    case move y => cases hop; exact .inl rfl
    case assign y => cases hop; exact .inr rfl
    all_goals first | cases hop | ((repeat' split at hop) <;> cases hop)
  intro w'
  rcases hmv with h | h <;> simp [execOp, h]

theorem cOp_bslice {ops : List Oper} {t sz : Nat} {own : Bool} {ps : List Operand} (h : cOp P ops o = .bslice t sz own ps) :
    ∃ ty m qs, o.op = .buildSlice ty m qs ∧ goodElem P ty = true ∧ m ≤ 64 ∧ qs.toList.map (·.1) = List.range m ∧ t = elemTy P ty ∧ sz = P.cellsOf (elemTy P ty) ∧ ps = qs.toList.map (·.2) := by
  unfold cOp at h
  cases hop : o.op <;> simp only [hop] at h
  case buildSlice ty m qs =>
    split at h
    · rename_i hh
      simp only [Bool.and_eq_true, decide_eq_true_eq, beq_iff_eq] at hh
      cases h
      exact ⟨_, _, _, rfl, hh.1.1, hh.1.2, hh.2, rfl, rfl, rfl⟩
    · cases h
  all_goals first | cases h | ((repeat' split at h) <;> cases h)

theorem cOp_alloc {ops : List Oper} {z : List Value} (h : cOp P ops o = .alloc z) : ∃ t zv, o.op = .alloc t ∧ zeroOf P t = some zv ∧ zv.cells.all (·.oneCell') = true ∧ z = zv.cells.toList := by
  unfold cOp at h
  cases hop : o.op <;> simp only [hop] at h
  case alloc t =>
    split at h
    · rename_i zv hz
      split at h
      · rename_i h1; cases h; exact ⟨_, _, rfl, hz, h1, rfl⟩
      · cases h
    · cases h
  all_goals first | cases h | ((repeat' split at h) <;> cases h)
theorem cOp_store {ops : List Oper} {m : Nat} {a x : Operand} (h : cOp P ops o = .store m a x) : ∃ t, o.op = .store t a x := by
  unfold cOp at h
  cases hop : o.op <;> simp only [hop] at h
  case store t a' x' =>
    split at h
    · cases h; exact ⟨_, rfl⟩
    · cases h
  all_goals first | cases h | ((repeat' split at h) <;> cases h)
theorem cOp_box {ops : List Oper} {x : Operand} (h : cOp P ops o = .box x) : ∃ t, o.op = .box t x := by
  unfold cOp at h
  cases hop : o.op <;> simp only [hop] at h
  case box t y => cases h; exact ⟨_, rfl⟩
  all_goals first | cases h | ((repeat' split at h) <;> cases h)
theorem cOp_make {ops : List Oper} {t sz bytes : Nat} {z : List Value} {l : Operand} (h : cOp P ops o = .make t z sz bytes l) :
    ∃ ty c, o.op = .makeSlice ty l c ∧ goodElem P ty = true ∧ zeroOne P (elemTy P ty) = true ∧ sameTmp l c = true ∧ t = elemTy P ty ∧ z = zeroCells P (elemTy P ty) ∧ sz = P.cellsOf (elemTy P ty) ∧ bytes = bytesOf P (elemTy P ty) := by
  unfold cOp at h
  cases hop : o.op <;> simp only [hop] at h
  case makeSlice ty l' c =>
    split at h
    · rename_i hh
      simp only [Bool.and_eq_true] at hh
      cases h
      exact ⟨_, _, rfl, hh.1.1, hh.1.2, hh.2, rfl, rfl, rfl, rfl⟩
    · cases h
  all_goals first | cases h | ((repeat' split at h) <;> cases h)

theorem cOp_append {ops : List Oper} {t sz bytes : Nat} {x y : Operand} (h : cOp P ops o = .append t sz bytes x y) :
    ∃ ty, o.op = .call { callee := .builtin .append, args := #[x, y], argTypes := #[ty, ty] } ∧ goodElem P ty = true ∧ t = elemTy P ty ∧ sz = P.cellsOf (elemTy P ty) ∧ bytes = bytesOf P (elemTy P ty) := by
  unfold cOp at h
  cases hop : o.op <;> simp only [hop] at h
  case call c =>
    obtain ⟨callee, args, argTypes⟩ := c
    cases callee with
    | builtin b =>
      cases b <;> simp only at h
      case append =>
        split at h
        · rename_i hh
          simp only [Bool.and_eq_true, beq_iff_eq] at hh
          cases h
          obtain ⟨⟨h1, h2⟩, h3⟩ := hh
          refine ⟨_, ?_, h1, rfl, rfl, rfl⟩
          have e1 : argTypes = #[argTypes.getD 0 0, argTypes.getD 0 0] := by apply Array.ext'; simpa using h2
          have e2 : args = #[arg args.toList 0, arg args.toList 1] := by
            obtain ⟨l⟩ := args
            match l, h3 with
            | [a, b], _ => rfl
          rw [← e1, ← e2]
        · cases h
      all_goals first | cases h | ((repeat' split at h) <;> cases h)
    | _ =>
      simp only at h
      (repeat' split at h) <;> first | cases h | contradiction | simp_all
  all_goals first | cases h | ((repeat' split at h) <;> cases h)

theorem held_one {ops : Array Oper} {i : Nat} (ho : ops[i]? = some o) (hgd : guardsOk ops.toList = true) (hdst : dstsOk n ops.toList = true) (hs : Sim mo n w0 F0 box0 U g ⟨e, bx, f⟩ a w)
    {k : Env → List ABox → Fr → Prop} {rest : List AO} {lend : Bool} {m0 H : Nat} (hH : H ≤ w.heap.size) (hT : ∀ (k b : Nat), m0 ≤ k → g.tok[k]? = some (some b) → H ≤ b) (h : aHeld (ACon mo P) lend m0 k (aoAt P ops i :: rest) e bx f) {Q' : Exit → Act → World → Prop} {K : Act → World → Prop}
    (hK : ∀ g' e' bx' f' a' w', Sim mo n w0 F0 box0 U g' ⟨e', bx', f'⟩ a' w' → (lend = false → Bel mo H w w') → (quietOp o = true → w' = w) → (lend = false → TokNew w g.tok g'.tok) → aHeld (ACon mo P) lend m0 k rest e' bx' f' → K a' w') : wpOp P ops Q' i K a w := by
  have hmem : o ∈ ops.toList := by simpa using Array.mem_of_getElem? ho
  have hd : ∀ i, o.dst = some i → i < n := fun i hi => by
    have := List.all_eq_true.1 hdst o hmem
    rw [hi] at this; simpa using this
  have hao : aoAt P ops i = aoOf P ops.toList o := by unfold aoAt; rw [ho]
  rw [hao] at h
  unfold wpOp
  simp only [ho]
  cases hgu : o.guard with
  | none =>
    have hw : Region.wanted o (yielded ops a.tmps) = true := by simp [Region.wanted, hgu]
    rw [if_pos hw]
    left
    simp only [aHeld, aoOf, hgu, Option.map_none] at h
    split at h
    · rename_i fid args hop
      obtain ⟨c, fn, h1, h2, h3, h4, rfl⟩ := cOp_call hop
      obtain ⟨vs, hv, hvs⟩ := evs_sound hs.env h
      have hq : ¬ quietOp o = true := by unfold quietOp; simp [h1, h2]
      refine leads_callsB hs hvs (fun _ => by rw [run_call h1 h2 h3 h4 w]; congr 2; apply Array.ext'; simp) hv _ _ ?_
      intro g' bx' f' x v w' S hx hk hb
      exact hK g' _ bx' f' _ w' (S.put hd hx) (fun hl => (hb hl).1.less hH) (fun h => absurd h hq) (fun hl => (hb hl).2) hk
    · rename_i x hop
      unfold Oper.wp
      rw [mv_inv hop w]
      exact hK g _ bx f _ w (hs.put hd (ev_sound hs.env x)) (fun _ => Bel.refl _ _) (fun _ => rfl) (fun _ => TokNew.refl _ _) h
    · rename_i t sz own ps hop
      obtain ⟨ty, m, qs, h1, h2, h3, h4, rfl, rfl, rfl⟩ := cOp_bslice hop
      have hq : ¬ quietOp o = true := by unfold quietOp; simp [h1]
      refine leads_bsliceB (k := fun v b' f' => aHeld (ACon mo P) lend m0 k rest (put e o.dst v) b' f') hs h1 h2 h3 h4 h _ _ ?_
      intro g' bx' f' x v w' S hx hk hb hnew
      exact hK g' _ bx' f' _ w' (S.put hd hx) (fun _ => hb.less hH) (fun h => absurd h hq) (fun _ => hnew) hk
    · rename_i z hop
      obtain ⟨t, zv, h1, h2, h3, rfl⟩ := cOp_alloc hop
      have hq : ¬ quietOp o = true := by unfold quietOp; simp [h1]
      refine leads_allocB (k := fun v b' f' => aHeld (ACon mo P) lend m0 k rest (put e o.dst v) b' f') hs h1 h2 h3 h _ _ ?_
      intro g' bx' f' x v w' S hx hk hb hnew
      exact hK g' _ bx' f' _ w' (S.put hd hx) (fun _ => hb.less hH) (fun h => absurd h hq) (fun _ => hnew) hk
    · rename_i x hop
      obtain ⟨t, h1⟩ := cOp_box hop
      have hq : ¬ quietOp o = true := by unfold quietOp; simp [h1]
      refine leads_boxB (k := fun v b' f' => aHeld (ACon mo P) lend m0 k rest (put e o.dst v) b' f') hs h1 h _ _ ?_
      intro g' bx' f' x v w' S hx hk hb hnew
      exact hK g' _ bx' f' _ w' (S.put hd hx) (fun _ => hb.less hH) (fun h => absurd h hq) (fun _ => hnew) hk
    · rename_i t z sz bytes l hop
      obtain ⟨ty, c, h1, h2, h3, h4, rfl, rfl, rfl, rfl⟩ := cOp_make hop
      have hq : ¬ quietOp o = true := by unfold quietOp; simp [h1]
      refine leads_makeB (k := fun v b' f' => aHeld (ACon mo P) lend m0 k rest (put e o.dst v) b' f') hs h1 h2 h3 h4 h _ _ ?_
      intro g' bx' f' x v w' S hx hk hb hnew
      exact hK g' _ bx' f' _ w' (S.put hd hx) (fun _ => hb.less hH) (fun h => absurd h hq) (fun _ => hnew) hk
    · rename_i t sz bytes x y hop
      obtain ⟨ty, h1, h2, rfl, rfl, rfl⟩ := cOp_append hop
      have hq : ¬ quietOp o = true := by unfold quietOp; simp [h1]
      refine leads_appendH (k := fun v b' f' => aHeld (ACon mo P) lend m0 k rest (put e o.dst v) b' f') hs h1 h2 hH hT h _ _ ?_
      intro g' bx' f' x v w' S hx hk hb hnew
      exact hK g' _ bx' f' _ w' (S.put hd hx) (fun _ => hb) (fun h => absurd h hq) (fun _ => hnew) hk
    · rename_i m p x hop
      obtain ⟨t, h1⟩ := cOp_store hop
      have hq : ¬ quietOp o = true := by unfold quietOp; simp [h1]
      cases lend with
      | true =>
        simp only at h
        rw [← hop] at h
        exact aOp_sound ops.toList hs h _ _ fun g' bx' f' x v w' S hx hk' => hK g' _ bx' f' _ w' (S.put hd hx) (fun h => nomatch h) (fun h => absurd h hq) (fun h => nomatch h) hk'
      | false => exact h.no
    · obtain ⟨x, v, hk, hx, hg⟩ := aValB_sound ops.toList hs h
      unfold Oper.wp
      rw [hg w (Below.refl _ _)]
      exact hK g _ bx f _ w (hs.put hd hx) (fun _ => Bel.refl _ _) (fun _ => rfl) (fun _ => TokNew.refl _ _) hk
  | some jw =>
    obtain ⟨j, want⟩ := jw
    simp only [aHeld, aoOf, hgu, Option.map_some] at h
    have hjd : ((ops[j]?).bind (·.dst)).isSome = true := by
      have := List.all_eq_true.1 hgd o hmem
      rw [hgu] at this
      simpa using this
    obtain ⟨gd, hq, hw⟩ := guard_sound hs.env hgu hjd (fun d hd' => by
      rw [hs.size]
      obtain ⟨oj, hoj, hdj⟩ := Option.bind_eq_some_iff.1 hd'
      have := List.all_eq_true.1 hdst oj (by simpa using Array.mem_of_getElem? hoj)
      rw [hdj] at this; simpa using this) h
    rw [hw]
    cases gd with
    | true =>
      rw [if_pos rfl]
      left
      refine aGuard_leadsB ops.toList hs hq _ _ ?_
      intro g' x v w' S hx hk hb hqq hnew
      exact hK g' _ bx f _ w' (S.put hd (.cond true x v (fun _ => hx) (fun h => by cases h))) (fun _ => hb.less hH) hqq (fun _ => hnew) hk
    | false =>
      rw [if_neg (by simp)]
      obtain ⟨x, hx⟩ := aGuard_ex hq
      exact hK g _ bx f _ w (hs.put hd (.cond false x undef (fun h => by cases h) (fun _ => rfl))) (fun _ => Bel.refl _ _) (fun _ => rfl) (fun _ => TokNew.refl _ _) hx

theorem held_quiet {ops : Array Oper} {i : Nat} (ho : ops[i]? = some o) (hqo : quietOp o = true) (hgd : guardsOk ops.toList = true) (hdst : dstsOk n ops.toList = true) (hs : Sim mo n w0 F0 box0 U g ⟨e, bx, f⟩ a w)
    {k : Env → List ABox → Fr → Prop} {rest : List AO} {lend : Bool} {m0 : Nat} (h : aHeld (ACon mo P) lend m0 k (aoAt P ops i :: rest) e bx f) :
    ∃ v e', YieldsIf P ops (Bel mo w.heap.size w) o v a ∧ Sim mo n w0 F0 box0 U g ⟨e', bx, f⟩ (a.put o.dst v) w ∧ aHeld (ACon mo P) lend m0 k rest e' bx f := by
  have hmem : o ∈ ops.toList := by simpa using Array.mem_of_getElem? ho
  have hd : ∀ i, o.dst = some i → i < n := fun i hi => by
    have := List.all_eq_true.1 hdst o hmem
    rw [hi] at this; simpa using this
  have hao : aoAt P ops i = aoOf P ops.toList o := by unfold aoAt; rw [ho]
  rw [hao] at h
  have nocall : ∀ {fid args}, cOp P ops.toList o = .call fid args → False := fun {fid args} hop => by
    obtain ⟨c, fn, h1, h2, h3, h4, rfl⟩ := cOp_call hop
    revert hqo; unfold quietOp; simp [h1, h2]
  cases hgu : o.guard with
  | none =>
    have hw : Region.wanted o (yielded ops a.tmps) = true := by simp [Region.wanted, hgu]
    simp only [aHeld, aoOf, hgu, Option.map_none] at h
    split at h
    · rename_i fid args hop; exact (nocall hop).elim
    · rename_i x hop
      exact ⟨_, _, .inl ⟨hw, fun w' _ => mv_inv hop w'⟩, hs.put hd (ev_sound hs.env x), h⟩
    · rename_i t sz own ps hop
      obtain ⟨ty, m, qs, h1, _⟩ := cOp_bslice hop
      exact absurd hqo (by unfold quietOp; simp [h1])
    · rename_i z hop
      obtain ⟨t, zv, h1, _⟩ := cOp_alloc hop
      exact absurd hqo (by unfold quietOp; simp [h1])
    · rename_i x hop
      obtain ⟨t, h1⟩ := cOp_box hop
      exact absurd hqo (by unfold quietOp; simp [h1])
    · rename_i t z sz bytes l hop
      obtain ⟨ty, c, h1, _⟩ := cOp_make hop
      exact absurd hqo (by unfold quietOp; simp [h1])
    · rename_i t sz bytes x y hop
      obtain ⟨ty, h1, _⟩ := cOp_append hop
      exact absurd hqo (by unfold quietOp; simp [h1])
    · rename_i m p x hop
      obtain ⟨t, h1⟩ := cOp_store hop
      exact absurd hqo (by unfold quietOp; simp [h1])
    · obtain ⟨x, v, hk, hx, hg⟩ := aValB_sound ops.toList hs h
      exact ⟨_, _, .inl ⟨hw, fun w' hw' => hg w' hw'.toBelow⟩, hs.put hd hx, hk⟩
  | some jw =>
    obtain ⟨j, want⟩ := jw
    simp only [aHeld, aoOf, hgu, Option.map_some] at h
    have hjd : ((ops[j]?).bind (·.dst)).isSome = true := by
      have := List.all_eq_true.1 hgd o hmem
      rw [hgu] at this
      simpa using this
    obtain ⟨gd, hq, hw⟩ := guard_sound hs.env hgu hjd (fun d hd' => by
      rw [hs.size]
      obtain ⟨oj, hoj, hdj⟩ := Option.bind_eq_some_iff.1 hd'
      have := List.all_eq_true.1 hdst oj (by simpa using Array.mem_of_getElem? hoj)
      rw [hdj] at this; simpa using this) h
    cases gd with
    | true =>
      unfold aGuard at hq
      split at hq
      · rename_i fid args hop; exact (nocall hop).elim
      · obtain ⟨x, v, hk, hx, hg⟩ := aValB_sound ops.toList hs hq
        exact ⟨_, _, .inl ⟨hw, fun w' hw' => hg w' hw'.toBelow⟩, hs.put hd (.cond true x v (fun _ => hx) (fun h => by cases h)), hk⟩
    | false =>
      obtain ⟨x, hx⟩ := aGuard_ex hq
      exact ⟨undef, _, .inr ⟨hw, rfl⟩, hs.put hd (.cond false x undef (fun h => by cases h) (fun _ => rfl)), hx⟩

def isBuild (o : Oper) : Bool := match o.op with | .build .. => true | _ => false
theorem pure_any {v : Value} (hp : pureOp o = true) (hnb : isBuild o = false) (h : (execOp a.eval o).run P w = .ok (.value v) w) : ∀ w', (execOp a.eval o).run P w' = .ok (.value v) w' := by
  intro w'
  unfold pureOp at hp
  cases ho : o.op <;> simp only [ho] at hp
  case move y => simp [execOp, ho] at h ⊢; exact h
  case assign y => simp [execOp, ho] at h ⊢; exact h
  case extract t i =>
    simp only [execOp, ho, Instr.extract] at h ⊢
    cases ht : a.eval t <;> simp only [ht] at h ⊢
    case tuple vs =>
      cases hv : vs[i]? with
      | none => rw [hv] at h; simp at h
      | some u => rw [hv] at h; simp [Sem.run_bind] at h ⊢; exact h
    all_goals simp at h
  case build => unfold isBuild at hnb; simp [ho] at hnb
  all_goals cases hp
theorem build_any (ops : List Oper) (hs : Sim mo n w0 F0 box0 U g ⟨e, bx, f⟩ a w) (hb : isBuild o = true) {k : AV → Prop} (h : aValB (cOp P ops o) true e bx k) :
    ∃ x v, k x ∧ RepT w0.heap.size w g.F g.tok f g.box x v ∧ ∀ w', (execOp a.eval o).run P w' = .ok (.value v) w' := by
  unfold aValB at h
  split at h
  · rename_i z pl qs hop
    obtain ⟨t, ps, places, zv, h1, h2, h3, h4, rfl, rfl, rfl⟩ := cOp_build hop
    exact does_buildA hs h1 h2 h3 h4 h
  · rename_i hop
    obtain ⟨first, caps, h1, _, _⟩ := cOp_clo hop
    unfold isBuild at hb
    rw [h1] at hb; cases hb
  · rename_i hno _
    exfalso
    unfold isBuild at hb
    split at hb
    · rename_i t ps hop
      unfold cOp at h hno
      simp only [hop] at h hno
      split at h
      · rename_i places zv hp
        split at h
        · rename_i h2
          simp only [hp] at hno
          rw [if_pos h2] at hno
          exact hno _ _ _ rfl
        · exact h.no
      · exact h.no
    · cases hb
theorem pureOp_quiet (h : pureOp o = true) : quietOp o = true := by
  unfold pureOp at h; unfold quietOp
  cases ho : o.op <;> simp only [ho] at h ⊢ <;> cases h
theorem held_pure {ops : Array Oper} {i : Nat} (ho : ops[i]? = some o) (hqo : pureOp o = true) (hgd : guardsOk ops.toList = true) (hdst : dstsOk n ops.toList = true) (hs : Sim mo n w0 F0 box0 U g ⟨e, bx, f⟩ a w)
    {k : Env → List ABox → Fr → Prop} {rest : List AO} {lend : Bool} {m0 : Nat} (h : aHeld (ACon mo P) lend m0 k (aoAt P ops i :: rest) e bx f) (S : World → Prop) :
    ∃ v e', YieldsIf P ops S o v a ∧ Sim mo n w0 F0 box0 U g ⟨e', bx, f⟩ (a.put o.dst v) w ∧ aHeld (ACon mo P) lend m0 k rest e' bx f := by
  by_cases hbo : isBuild o = true
  rotate_left
  · have hbo : isBuild o = false := by simpa using hbo
    obtain ⟨v, e', hy, S', hk⟩ := held_quiet ho (pureOp_quiet hqo) hgd hdst hs h
    refine ⟨v, e', ?_, S', hk⟩
    rcases hy with ⟨h1, h2⟩ | h1
    · exact .inl ⟨h1, fun w' _ => pure_any hqo hbo (h2 w (Bel.refl _ _)) w'⟩
    · exact .inr h1
  have hmem : o ∈ ops.toList := by simpa using Array.mem_of_getElem? ho
  have hd : ∀ i, o.dst = some i → i < n := fun i hi => by
    have := List.all_eq_true.1 hdst o hmem
    rw [hi] at this; simpa using this
  have hao : aoAt P ops i = aoOf P ops.toList o := by unfold aoAt; rw [ho]
  rw [hao] at h
  have bop : ∃ t ps, o.op = .build t ps := by
    unfold isBuild at hbo
    split at hbo
    · exact ⟨_, _, ‹_›⟩
    · cases hbo
  obtain ⟨bt, bps, bop⟩ := bop
  have nocall : ∀ {fid args}, cOp P ops.toList o = .call fid args → False := fun {fid args} hop => by
    obtain ⟨c, fn, h1, _⟩ := cOp_call hop
    rw [h1] at bop; cases bop
  cases hgu : o.guard with
  | none =>
    have hw : Region.wanted o (yielded ops a.tmps) = true := by simp [Region.wanted, hgu]
    simp only [aHeld, aoOf, hgu, Option.map_none] at h
    split at h
    · rename_i fid args hop; exact (nocall hop).elim
    · rename_i x hop
      exact ⟨_, _, .inl ⟨hw, fun w' _ => mv_inv hop w'⟩, hs.put hd (ev_sound hs.env x), h⟩
    · rename_i t sz own ps hop
      obtain ⟨ty, m, qs, h1, _⟩ := cOp_bslice hop
      rw [h1] at bop; cases bop
    · rename_i z hop
      obtain ⟨t, zv, h1, _⟩ := cOp_alloc hop
      rw [h1] at bop; cases bop
    · rename_i x hop
      obtain ⟨t, h1⟩ := cOp_box hop
      rw [h1] at bop; cases bop
    · rename_i t z sz bytes l hop
      obtain ⟨ty, c, h1, _⟩ := cOp_make hop
      rw [h1] at bop; cases bop
    · rename_i t sz bytes x y hop
      obtain ⟨ty, h1, _⟩ := cOp_append hop
      rw [h1] at bop; cases bop
    · rename_i m p x hop
      obtain ⟨t, h1⟩ := cOp_store hop
      exact absurd hqo (by unfold pureOp; simp [h1])
    · obtain ⟨x, v, hk, hx, hr⟩ := build_any ops.toList hs hbo h
      exact ⟨_, _, .inl ⟨hw, fun w' _ => hr w'⟩, hs.put hd hx, hk⟩
  | some jw =>
    obtain ⟨j, want⟩ := jw
    simp only [aHeld, aoOf, hgu, Option.map_some] at h
    have hjd : ((ops[j]?).bind (·.dst)).isSome = true := by
      have := List.all_eq_true.1 hgd o hmem
      rw [hgu] at this
      simpa using this
    obtain ⟨gd, hq, hw⟩ := guard_sound hs.env hgu hjd (fun d hd' => by
      rw [hs.size]
      obtain ⟨oj, hoj, hdj⟩ := Option.bind_eq_some_iff.1 hd'
      have := List.all_eq_true.1 hdst oj (by simpa using Array.mem_of_getElem? hoj)
      rw [hdj] at this; simpa using this) h
    cases gd with
    | true =>
      unfold aGuard at hq
      split at hq
      · rename_i fid args hop; exact (nocall hop).elim
      · obtain ⟨x, v, hk, hx, hr⟩ := build_any ops.toList hs hbo hq
        exact ⟨_, _, .inl ⟨hw, fun w' _ => hr w'⟩, hs.put hd (.cond true x v (fun _ => hx) (fun h => by cases h)), hk⟩
    | false =>
      obtain ⟨x, hx⟩ := aGuard_ex hq
      exact ⟨undef, _, .inr ⟨hw, rfl⟩, hs.put hd (.cond false x undef (fun h => by cases h) (fun _ => rfl)), hx⟩

/-! whichever order: below number z with a condition on the world, then one after the other -/
def wpAnyT (P : Program) (ops : Array Oper) (Q : Exit → Act → World → Prop) (S : World → Prop) (L : Array Bool → Act → World → Prop) : Nat → Array Bool → Act → World → Prop
  | 0, listed, a, w => L listed a w
  | m + 1, listed, a, w => Region.ready .any ops listed ≠ [] ∧ ∀ i ∈ Region.ready .any ops listed, wpOp P ops Q i (fun a' w' => S w' ∧ wpAnyT P ops Q S L m (listed.setIfInBounds i true) a' w') a w

theorem wpAny_of_T {ops : Array Oper} {Q : Exit → Act → World → Prop} {S : World → Prop} {L : Array Bool → Act → World → Prop} {r : Nat} (hL : ∀ listed a w, L listed a w → wpAny P .any ops Q r listed a w) :
    ∀ (m : Nat) (listed : Array Bool) (a : Act) (w : World), wpAnyT P ops Q S L m listed a w → wpAny P .any ops Q (m + r) listed a w
  | 0, listed, a, w, h => by rw [Nat.zero_add]; exact hL _ _ _ h
  | m + 1, listed, a, w, h => by
    rw [show m + 1 + r = (m + r) + 1 by omega]
    exact ⟨fun h0 => absurd h0 h.1, fun i hi => wpOp_mono (fun a' w' h' => wpAny_of_T hL m _ a' w' h'.2) (h.2 i hi)⟩

theorem wpAnyT_first {ops : Array Oper} {Q : Exit → Act → World → Prop} {S : World → Prop} {L : Array Bool → Act → World → Prop} {z i : Nat} {oi : Oper} {v : Value} (hi : ops[i]? = some oi)
    (hsel : ∀ (j : Nat) (o : Oper) cs b, ops[j]? = some o → o.op ≠ .select cs b) (hQ : ∀ c a w, Q (.panic c) (a.put oi.dst v) w → Q (.panic c) a w)
    (hs : Region.sinkB .any ops z = true) (hc : Region.chainB .any ops z = true) (hz : z < ops.size) (hiz : i < z) (hL : ∀ listed a w, L listed a w → ∀ j ∈ Region.ready .any ops listed, z ≤ j) :
    ∀ (m : Nat) (listed : Array Bool) (a : Act) (w : World), HeadInv .any ops z listed →
      (∀ j oj, ops[j]? = some oj → j ≠ i → listed.getD j true = false → (∀ e ∈ oj.after, Region.binds .any e = true → e.on ≠ i) → oi.apart ops oj = true) →
      i ∈ Region.ready .any ops listed → YieldsIf P ops S oi v a → S w →
      wpAnyT P ops Q S L m (listed.setIfInBounds i true) (a.put oi.dst v) w → wpAnyT P ops Q S L (m + 1) listed a w := by
  intro m
  induction m with
  | zero =>
    intro listed a w inv _ hr hy hS H
    have hun := (mem_ready.1 hr).1
    refine ⟨fun h => (by rw [h] at hr; cases hr), fun j hj => ?_⟩
    by_cases hji : j = i
    · subst hji; exact hy.wpOp hi hS ⟨hS, H⟩
    · have h1 := hL _ _ _ H j (ready_mono hj hji)
      exact absurd hj (tail_waits hs hc hz inv _ i rfl hiz hun j h1)
  | succ m ih =>
    intro listed a w inv hfree hr hy hS H
    have hun := (mem_ready.1 hr).1
    refine ⟨fun h => (by rw [h] at hr; cases hr), fun j hj => ?_⟩
    by_cases hji : j = i
    · subst hji; exact hy.wpOp hi hS ⟨hS, H⟩
    · have hjz : j < z := by
        rcases Nat.lt_or_ge j z with h | h
        · exact h
        · exact absurd hj (tail_waits hs hc hz inv _ i rfl hiz hun j h)
      have h1 := H.2 j (ready_mono hj hji)
      obtain ⟨hjun, oj, hoj, hall⟩ := mem_ready.1 hj
      have hnot : ∀ e ∈ oj.after, Region.binds .any e = true → e.on ≠ i := fun e he hb heq => by
        have h2 := hall e he hb
        rw [heq, getD_both hun] at h2
        cases h2
      have h2 := wpOp_putIf hoj (hfree j oj hoj hji hjun hnot) (fun cs b => hsel i oi cs b hi) (fun cs b => hsel j oj cs b hoj) hQ hy h1
      refine wpOp_mono (fun a' w' h3 => ⟨h3.2.1, ih (listed.setIfInBounds j true) a' w' (inv.set hj hjz) (fun k ok hk hki hku hno => ?_) (ready_mono hr (Ne.symm hji)) h3.1 h3.2.1 ?_⟩) h2
      · refine hfree k ok hk hki ?_ hno
        by_cases hjk : j = k
        · subst hjk; exact hjun
        · rw [getD_set_ne true hjk] at hku; exact hku
      · rw [Array.setIfInBounds_comm _ _ hji]
        exact h3.2.2

/-- all below t have come, none from t on -/
structure AtT (ops : Array Oper) (t : Nat) (listed : Array Bool) : Prop where
  lo : ∀ j, j < t → listed.getD j false = true
  hi : ∀ j, t ≤ j → j < ops.size → listed.getD j true = false

theorem AtT.ready {ops : Array Oper} {z t : Nat} {listed : Array Bool} (hA : AtT ops t listed) (hz : z ≤ t) (ht : t < ops.size) (hc : Region.chainB .any ops z = true) (hb : tailB ops z = true) : Region.ready .any ops listed = [t] := by
  have hmem : ∀ j, j ∈ Region.ready .any ops listed ↔ j = t := fun j => by
    rw [mem_ready]
    constructor
    · rintro ⟨h0, o, ho, hall⟩
      have hj := (Array.getElem?_eq_some_iff.1 ho).1
      rcases Nat.lt_trichotomy j t with h | h | h
      · have h1 := hA.lo j h
        rcases Nat.lt_or_ge j listed.size with h' | h'
        · simp [h'] at h0 h1; rw [h0] at h1; cases h1
        · simp [Array.getElem?_eq_none h'] at h1
      · exact h
      · have h1 := List.all_eq_true.1 hc j (List.mem_range.2 hj)
        simp only [Bool.or_eq_true, decide_eq_true_eq] at h1
        rcases h1 with h1 | h1
        · omega
        · obtain ⟨o', ho', e, he, hbi, hon⟩ := Region.waitsFor_spec h1
          have : o' = o := Option.some.inj (ho'.symm.trans ho)
          subst this
          have h2 := hall e he hbi
          have h3 := getD_both (hA.hi (j - 1) (by omega) (by omega))
          rw [hon, h3] at h2
          cases h2
    · rintro rfl
      have ho : ops[j]? = some ops[j] := Array.getElem?_eq_getElem ht
      refine ⟨hA.hi j (Nat.le_refl _) ht, ops[j], ho, fun e he hbi => ?_⟩
      have h1 := List.all_eq_true.1 hb j (List.mem_range.2 ht)
      simp only [Bool.or_eq_true, decide_eq_true_eq, ho] at h1
      rcases h1 with h1 | h1
      · omega
      · have h2 := Array.all_eq_true_iff_forall_mem.1 h1 e he
        simp only [hbi, Bool.not_true, Bool.false_or, decide_eq_true_eq] at h2
        exact hA.lo _ h2
  have hnd : (Region.ready .any ops listed).Nodup := List.Nodup.sublist (List.filter_sublist ..) List.nodup_range
  match hr : Region.ready .any ops listed with
  | [] => have := (hmem t).2 rfl; rw [hr] at this; cases this
  | [j] => have := (hmem j).1 (by rw [hr]; simp); rw [this]
  | j :: k :: r =>
    have h1 := (hmem j).1 (by rw [hr]; simp)
    have h2 := (hmem k).1 (by rw [hr]; simp)
    rw [hr] at hnd
    have := (List.nodup_cons.1 hnd).1
    rw [h1, h2] at this
    simp at this

theorem AtT.set {ops : Array Oper} {t : Nat} {listed : Array Bool} (hA : AtT ops t listed) (hl : listed.size = ops.size) (ht : t < ops.size) : AtT ops (t + 1) (listed.setIfInBounds t true) := by
  refine ⟨fun j hj => ?_, fun j hj hj' => ?_⟩
  · by_cases h : t = j
    · subst h; simp [hl, ht]
    · rw [getD_set_ne false h]; exact hA.lo j (by omega)
  · rw [getD_set_ne true (by omega)]; exact hA.hi j (by omega) hj'

/-- the rest, one after the other -/
theorem wpAny_tail {ops : Array Oper} {Q : Exit → Act → World → Prop} {z : Nat} (hc : Region.chainB .any ops z = true) (hb : tailB ops z = true) :
    ∀ (m t : Nat) (listed : Array Bool) (a : Act) (w : World), t + m = ops.size → z ≤ t → listed.size = ops.size → AtT ops t listed → wpList P ops Q (ops.toList.drop t) a w → wpAny P .any ops Q m listed a w
  | 0, t, listed, a, w, hm, _, hl, hA, h => by
    have hr : Region.ready .any ops listed = [] := by
      apply List.eq_nil_iff_forall_not_mem.2
      intro j hj
      obtain ⟨h0, o, ho, _⟩ := mem_ready.1 hj
      have hj' := (Array.getElem?_eq_some_iff.1 ho).1
      have h1 := hA.lo j (by omega)
      have h2 := getD_both h0
      rw [h1] at h2; cases h2
    rw [List.drop_eq_nil_of_le (by simp; omega)] at h
    exact ⟨hr, h⟩
  | m + 1, t, listed, a, w, hm, hz, hl, hA, h => by
    have ht : t < ops.size := by omega
    have hr := hA.ready hz ht hc hb
    refine ⟨fun h0 => (by rw [hr] at h0; cases h0), fun i hi => ?_⟩
    rw [hr] at hi
    have : i = t := by simpa using hi
    subst this
    have hd : ops.toList.drop i = ops[i] :: ops.toList.drop (i + 1) := by rw [List.drop_eq_getElem_cons (by simpa using ht)]; simp
    rw [hd] at h
    unfold wpOp
    rw [Array.getElem?_eq_getElem ht]
    simp only
    unfold wpList at h
    have ih : ∀ a' w', wpList P ops Q (ops.toList.drop (i + 1)) a' w' → wpAny P .any ops Q m (listed.setIfInBounds i true) a' w' := fun a' w' h' => wpAny_tail hc hb m (i + 1) _ a' w' (by omega) (by omega) (by simp [hl]) (hA.set hl ht) h'
    split
    · rename_i hw
      rw [if_pos hw] at h
      rcases h with h | h
      · exact .inl (Oper.wp_mono ih h)
      · exact .inr h
    · rename_i hw
      rw [if_neg hw] at h
      exact ih _ _ h

theorem aHeld_sound {ops : Array Oper} (hgd : guardsOk ops.toList = true) (hdst : dstsOk n ops.toList = true) (hsel : Region.noSelect ops = true) {z : Nat} (hsk : Region.sinkB .any ops z = true) (hch : Region.chainB .any ops z = true) (hzs : z < ops.size)
    {ws : World} {m0 : Nat} {k : Env → List ABox → Fr → Prop} {Q' : Exit → Act → World → Prop} {L : Array Bool → Act → World → Prop}
    (hQ : ∀ c a w, ¬ Q' (.panic c) a w) (hLz : ∀ listed a w, L listed a w → ∀ j ∈ Region.ready .any ops listed, z ≤ j)
    (hk : ∀ listed g' e' bx' f' a' w', HeadInv .any ops z listed → Region.ready .any ops listed = [z] → Sim mo n w0 F0 box0 U g' ⟨e', bx', f'⟩ a' w' → k e' bx' f' → L listed a' w') :
    ∀ (m : Nat) (fresh : Bool) (listed : Array Bool) (ord : List Nat), heldGo ops z m fresh listed = some ord → ∀ (g : G) (e : Env) (bx : List ABox) (f : Fr) (a : Act) (w : World), HeadInv .any ops z listed → Sim mo n w0 F0 box0 U g ⟨e, bx, f⟩ a w →
      Bel mo ws.heap.size ws w → (∀ (k b : Nat), m0 ≤ k → g.tok[k]? = some (some b) → ws.heap.size ≤ b) → (fresh = true → w = ws) → aHeld (ACon mo P) false m0 k (ord.map (aoAt P ops)) e bx f → wpAnyT P ops Q' (Bel mo ws.heap.size ws) L m listed a w
  | 0, fresh, listed, ord, ho, g, e, bx, f, a, w, inv, hs, hb, hT, hf, h => by
    unfold heldGo at ho
    split at ho
    · rename_i hr
      cases ho
      exact hk _ _ _ _ _ _ _ inv (by simpa using hr) hs h
    · cases ho
  | m + 1, fresh, listed, ord, ho, g, e, bx, f, a, w, inv, hs, hb, hT, hf, h => by
    unfold heldGo at ho
    split at ho
    · rename_i i hr
      split at ho
      · rename_i hiz
        split at ho
        · rename_i l hl
          cases ho
          have hmem : i ∈ Region.ready .any ops listed := by rw [hr]; simp
          obtain ⟨_, oi, hoi, _⟩ := mem_ready.1 hmem
          refine ⟨by rw [hr]; simp, fun j hj => ?_⟩
          rw [hr] at hj
          have : j = i := by simpa using hj
          subst this
          refine held_one hoi hgd hdst hs hb.size hT h ?_
          intro g' e' bx' f' a' w' S hb' hq' hnew h'
          have hb' := hb' rfl
          have hnew := hnew rfl
          refine ⟨hb.trans hb', aHeld_sound hgd hdst hsel hsk hch hzs hQ hLz hk m _ _ l hl g' e' bx' f' a' w' (inv.set hmem hiz) S (hb.trans hb') (fun k b hm hk' => (hnew k b hk').elim (hT k b hm) (fun h => Nat.le_trans hb.size h)) (fun hfr => ?_) h'⟩
          rw [Bool.and_eq_true] at hfr
          have hqi : quietOp oi = true := by have := hfr.2; unfold quietIx at this; rw [hoi] at this; exact this
          rw [hq' hqi]; exact hf hfr.1
        · cases ho
      · cases ho
    · split at ho
      · rename_i i hfi
        split at ho
        · rename_i l hl
          cases ho
          have hmem := List.mem_of_find?_eq_some hfi
          have hp := List.find?_some hfi
          simp only [Bool.and_eq_true, Bool.or_eq_true, decide_eq_true_eq] at hp
          obtain ⟨⟨hiz, hqi⟩, hfree⟩ := hp
          obtain ⟨_, oi, hoi, _⟩ := mem_ready.1 hmem
          rcases hqi with ⟨hfr, hqi⟩ | hqi
          · have hqi' : quietOp oi = true := by unfold quietIx at hqi; rw [hoi] at hqi; exact hqi
            have hw := hf hfr
            subst hw
            obtain ⟨v, e', hy, S, h'⟩ := held_quiet hoi hqi' hgd hdst hs h
            exact wpAnyT_first hoi (Region.noSelect_spec hsel) (fun c a w h => absurd h (hQ c _ w)) hsk hch hzs hiz hLz m listed a w inv (Region.free_spec hoi hfree) hmem hy hb
              (aHeld_sound hgd hdst hsel hsk hch hzs hQ hLz hk m _ _ l hl g e' bx f _ _ (inv.set hmem hiz) S hb hT (fun _ => rfl) h')
          · have hqi' : pureOp oi = true := by unfold pureIx at hqi; rw [hoi] at hqi; exact hqi
            obtain ⟨v, e', hy, S, h'⟩ := held_pure hoi hqi' hgd hdst hs h (Bel mo ws.heap.size ws)
            exact wpAnyT_first hoi (Region.noSelect_spec hsel) (fun c a w h => absurd h (hQ c _ w)) hsk hch hzs hiz hLz m listed a w inv (Region.free_spec hoi hfree) hmem hy hb
              (aHeld_sound hgd hdst hsel hsk hch hzs hQ hLz hk m _ _ l hl g e' bx f _ _ (inv.set hmem hiz) S hb hT hf h')
        · cases ho
      · cases ho
theorem alts_mem {ops : Array Oper} {z m : Nat} {fresh : Bool} {listed : Array Bool} {C : Con} {lend : Bool} {m0 : Nat} {k : Env → List ABox → Fr → Prop} {F : Nat → AO} {e : Env} {bx : List ABox} {f : Fr} : ∀ (rs : List Nat) (it : IT),
    rs.foldr (fun i acc => match treeGo ops z m (fresh && quietIx ops i) (listed.setIfInBounds i true), acc with | some r, some t => some (.alt i r t) | _, _ => none) (some .none) = some it → aHT C lend m0 k (it.map F) e bx f →
    ∀ i ∈ rs, ∃ r, treeGo ops z m (fresh && quietIx ops i) (listed.setIfInBounds i true) = some r ∧ aHeld C lend m0 (fun e b f => aHT C lend m0 k (r.map F) e b f) [F i] e bx f
  | [], _, _, _, i, hi => by cases hi
  | j :: rs, it, ho, h, i, hi => by
    rw [List.foldr_cons] at ho
    split at ho
    · rename_i r t hr ht
      cases ho
      rw [IT.map, aHT] at h
      obtain ⟨h1, h2⟩ := h
      rcases List.mem_cons.1 hi with rfl | hi
      · exact ⟨r, hr, h1⟩
      · exact alts_mem rs t ht h2 i hi
    · cases ho

theorem yields_mono {P : Program} {ops : Array Oper} {S S' : World → Prop} {o : Oper} {v : Value} {a : Act} (hS : ∀ w, S' w → S w) (h : YieldsIf P ops S o v a) : YieldsIf P ops S' o v a :=
  h.imp (fun h => ⟨h.1, fun w hw => h.2 w (hS w hw)⟩) id
theorem aTree_sound {ops : Array Oper} (hgd : guardsOk ops.toList = true) (hdst : dstsOk n ops.toList = true) (hsel : Region.noSelect ops = true) {z : Nat} (hsk : Region.sinkB .any ops z = true) (hch : Region.chainB .any ops z = true) (hzs : z < ops.size)
    {ws : World} {lend : Bool} {m0 : Nat} {k : Env → List ABox → Fr → Prop} {Q' : Exit → Act → World → Prop} {L : Array Bool → Act → World → Prop}
    (hQ : ∀ c a w, ¬ Q' (.panic c) a w) (hLz : ∀ listed a w, L listed a w → ∀ j ∈ Region.ready .any ops listed, z ≤ j)
    (hk : ∀ listed g' e' bx' f' a' w', HeadInv .any ops z listed → Region.ready .any ops listed = [z] → Sim mo n w0 F0 box0 U g' ⟨e', bx', f'⟩ a' w' → k e' bx' f' → L listed a' w') :
    ∀ (m : Nat) (fresh : Bool) (listed : Array Bool) (it : IT), treeGo ops z m fresh listed = some it → ∀ (g : G) (e : Env) (bx : List ABox) (f : Fr) (a : Act) (w : World), HeadInv .any ops z listed → Sim mo n w0 F0 box0 U g ⟨e, bx, f⟩ a w →
      (lend = false → Bel mo ws.heap.size ws w) → (lend = false → ∀ (k b : Nat), m0 ≤ k → g.tok[k]? = some (some b) → ws.heap.size ≤ b) → (fresh = true → lend = false ∧ w = ws) → aHT (ACon mo P) lend m0 k (it.map (aoAt P ops)) e bx f → wpAnyT P ops Q' (fun w' => lend = false → Bel mo ws.heap.size ws w') L m listed a w
  | 0, fresh, listed, it, ho, g, e, bx, f, a, w, inv, hs, hb, hT, hf, h => by
    unfold treeGo at ho
    split at ho
    · rename_i hr
      cases ho
      exact hk _ _ _ _ _ _ _ inv (by simpa using hr) hs h
    · cases ho
  | m + 1, fresh, listed, it, ho, g, e, bx, f, a, w, inv, hs, hb, hT, hf, h => by
    unfold treeGo at ho
    split at ho
    · rename_i i hfi
      split at ho
      · rename_i l hl
        cases ho
        rw [IT.map, aHT] at h
        obtain ⟨h, -⟩ := h
        have hmem := List.mem_of_find?_eq_some hfi
        have hp := List.find?_some hfi
        simp only [Bool.and_eq_true, Bool.or_eq_true, decide_eq_true_eq] at hp
        obtain ⟨⟨hiz, hqi⟩, hfree⟩ := hp
        obtain ⟨_, oi, hoi, _⟩ := mem_ready.1 hmem
        rcases hqi with ⟨hfr, hqi⟩ | hqi
        · have hqi' : quietOp oi = true := by unfold quietIx at hqi; rw [hoi] at hqi; exact hqi
          obtain ⟨hl0, hw⟩ := hf hfr
          subst hw
          obtain ⟨v, e', hy0, S, h'⟩ := held_quiet hoi hqi' hgd hdst hs h
          have hy := yields_mono (S' := fun w' => lend = false → Bel mo w.heap.size w w') (fun w' h => h hl0) hy0
          exact wpAnyT_first hoi (Region.noSelect_spec hsel) (fun c a w h => absurd h (hQ c _ w)) hsk hch hzs hiz hLz m listed a w inv (Region.free_spec hoi hfree) hmem hy hb
            (aTree_sound hgd hdst hsel hsk hch hzs hQ hLz hk m _ _ l hl g e' bx f _ _ (inv.set hmem hiz) S hb hT (fun _ => ⟨hl0, rfl⟩) h')
        · have hqi' : pureOp oi = true := by unfold pureIx at hqi; rw [hoi] at hqi; exact hqi
          obtain ⟨v, e', hy, S, h'⟩ := held_pure hoi hqi' hgd hdst hs h (fun w' => lend = false → Bel mo ws.heap.size ws w')
          exact wpAnyT_first hoi (Region.noSelect_spec hsel) (fun c a w h => absurd h (hQ c _ w)) hsk hch hzs hiz hLz m listed a w inv (Region.free_spec hoi hfree) hmem hy hb
            (aTree_sound hgd hdst hsel hsk hch hzs hQ hLz hk m _ _ l hl g e' bx f _ _ (inv.set hmem hiz) S hb hT hf h')
      · cases ho
    · split at ho
      · cases ho
      · rename_i hne
        simp only [Bool.or_eq_true, not_or, Bool.not_eq_true, List.any_eq_false, decide_eq_true_eq] at hne
        obtain ⟨hemp, hz⟩ := hne
        refine ⟨fun h0 => (by rw [h0] at hemp; simp at hemp), fun j hj => ?_⟩
        have hjz : j < z := by have := hz j hj; omega
        obtain ⟨r, hr, hone⟩ := alts_mem _ it ho h j hj
        obtain ⟨_, oi, hoi, _⟩ := mem_ready.1 hj
        refine held_one (H := match lend with | true => 0 | false => ws.heap.size) hoi hgd hdst hs (by cases lend with | true => exact Nat.zero_le _ | false => exact (hb rfl).size) (by cases lend with | true => exact fun _ _ _ _ => Nat.zero_le _ | false => exact hT rfl) hone ?_
        intro g' e' bx' f' a' w' S hb' hq' hnew h'
        have hbt : lend = false → Bel mo ws.heap.size ws w' := fun hl => by
          have h1 := hb hl
          have h2 := hb' hl
          subst hl
          exact h1.trans h2
        refine ⟨hbt, aTree_sound hgd hdst hsel hsk hch hzs hQ hLz hk m _ _ r hr g' e' bx' f' a' w' (inv.set hj hjz) S hbt (fun hl k b hm hk' => (hnew hl k b hk').elim (hT hl k b hm) (fun h => Nat.le_trans (hb hl).size h)) (fun hfr => ?_) h'⟩
        rw [Bool.and_eq_true] at hfr
        have hqi : quietOp oi = true := by have := hfr.2; unfold quietIx at this; rw [hoi] at this; exact this
        rw [hq' hqi]; exact hf hfr.1
end
end Abs
end Go.Proofs.Ytkbblglbbfdnpaa
namespace Go.Proofs.Ytkbblglbbfdnpaa
namespace Abs
variable {mo : Bool} {U : List (AV × Value)}
open Go.RowKit

section
variable {P : Program} {n : Nat} {w0 : World} {F0 : Nat → Nat} {box0 : List BId}

theorem look_norm (e : Env) (i : Nat) : ∀ K, look (norm e K) i = look e i ∨ look (norm e K) i = .any
  | [] => .inr rfl
  | j :: K => by
    rw [norm, look]
    by_cases h : i = j
    · rw [if_pos h, h]; exact .inl rfl
    · rw [if_neg h]; exact look_norm e i K

theorem Sim.norm {g : G} {s : St} {a : Act} {w : World} (h : Sim mo n w0 F0 box0 U g s a w) (K : List Nat) : Sim mo n w0 F0 box0 U g ⟨Abs.norm s.env K, s.bx, s.fr⟩ a w :=
  have he : EnvOk w0.heap.size w g.F g.tok s.fr g.box (Abs.norm s.env K) a := fun i => by
    rcases look_norm s.env i K with h1 | h1
    · rw [h1]; exact h.env i
    · rw [h1]; exact .rep _ _ (.any _)
  { h with env := he }

theorem agrees_look {e : Env} : ∀ {t : Env} {i : Nat}, agrees e t → look t i = look e i ∧ (∃ x, (i, x) ∈ t ∧ look t i = x) ∨ look t i = .any
  | [], i, _ => .inr rfl
  | (j, x) :: t, i, h => by
    rw [look]
    by_cases hi : i = j
    · subst hi
      rw [if_pos rfl]
      exact .inl ⟨h.1.symm, x, by simp, rfl⟩
    · rw [if_neg hi]
      rcases agrees_look h.2 (i := i) with ⟨h1, y, h2, h3⟩ | h
      · exact .inl ⟨h1, y, by simp [h2], h3⟩
      · exact .inr h

theorem inBL_mem {m : Nat} : ∀ {cs : List AV} {c : AV}, inB.inBL m cs → c ∈ cs → inB m c
  | d :: cs, c, h, hc => by
    rcases List.mem_cons.1 hc with rfl | hc
    · exact h.1
    · exact inBL_mem h.2 hc
theorem inBE_mem {m : Nat} : ∀ {e : Env} {p : Nat × AV}, inBE m e → p ∈ e → inB m p.2
  | q :: e, p, h, hp => by
    rcases List.mem_cons.1 hp with rfl | hp
    · exact h.1
    · exact inBE_mem h.2 hp
theorem inBX_get {m : Nat} : ∀ {b : List ABox} {i : Nat} {k : RK} {cs : List AV}, inBX m b → b[i]? = some (.cells k cs) → inB.inBL m cs
  | x :: b, 0, k, cs, h, hi => by simp at hi; subst hi; exact h.1
  | x :: b, i + 1, k, cs, h, hi => inBX_get h.2 (by simpa using hi)

theorem Rep.take {B : Nat} {w : World} {F : Nat → Nat} {tok : List (Option Nat)} {fr : Fr} {box : List BId} {m : Nat} {x : AV} {v : Value} (h : Rep B w F tok fr box x v) (hi : inB m x) : Rep B w F tok fr (box.take m) x v := by
  have get : ∀ {j : Nat} {d : BId}, j < m → box[j]? = some d → (box.take m)[j]? = some d := fun hj hd => by rw [List.getElem?_take, if_pos hj]; exact hd
  induction h with
  | any v => exact .any v
  | val v => exact .val v
  | str s => exact .str s
  | list o xs a cap sz b off vs hcap ha hsz hF hc hr ho => exact .list o xs a cap sz b off vs hcap ha hsz hF hc hr ho
  | agg cs vs h h1 _ ih => exact .agg cs vs h h1 (fun i c hc => ih i c hc (inBL_mem hi (List.mem_of_getElem? hc)) get)
  | tup cs vs h _ ih => exact .tup cs vs h (fun i c hc => ih i c hc (inBL_mem hi (List.mem_of_getElem? hc)) get)
  | rptr cs b off vs hF hc hr => exact .rptr cs b off vs hF hc hr
  | bptr j off b cap h => exact .bptr j off b cap (get hi h)
  | bsl j l b cap h hn => exact .bsl j l b cap (get hi h) hn
  | bnil j h => exact .bnil j (get hi h)
  | bmap j b cap h => exact .bmap j b cap (get hi h)
  | tag x v _ h1 ih => exact .tag x v (ih hi get) h1
  | clo f first caps vf vc h1 h2 _ _ ih1 ih2 => exact .clo f first caps vf vc h1 h2 (fun i c hc => ih1 i c hc (inBL_mem hi.1 (List.mem_of_getElem? hc)) get) (fun i c hc => ih2 i c hc (inBL_mem hi.2 (List.mem_of_getElem? hc)) get)

theorem RepT.take {B : Nat} {w : World} {F : Nat → Nat} {tok : List (Option Nat)} {fr : Fr} {box : List BId} {m : Nat} {x : AV} {v : Value} (h : RepT B w F tok fr box x v) (hi : inB m x) : RepT B w F tok fr (box.take m) x v := by
  induction h with
  | rep x v h => exact .rep x v (h.take hi)
  | cond g x v _ hn ih => exact .cond g x v (fun hg => ih hg hi) hn

mutual
theorem inB_mono {m k : Nat} (h : m ≤ k) : ∀ {x : AV}, inB m x → inB k x
  | .bptr _ _, hx => Nat.lt_of_lt_of_le hx h
  | .bsl _ _, hx => Nat.lt_of_lt_of_le hx h
  | .bmap _, hx => Nat.lt_of_lt_of_le hx h
  | .tag _ x, hx => inB_mono (x := x) h hx
  | .agg cs, hx => inBL_monoL h (cs := cs) hx
  | .tup cs, hx => inBL_monoL h (cs := cs) hx
  | .clo _ a b, hx => ⟨inBL_monoL h (cs := a) hx.1, inBL_monoL h (cs := b) hx.2⟩
  | .cond _ x, hx => inB_mono (x := x) h hx
  | .any, _ => trivial
  | .val _, _ => trivial
  | .str _, _ => trivial
  | .list _ _, _ => trivial
  | .rptr _, _ => trivial
theorem inBL_monoL {m k : Nat} (h : m ≤ k) : ∀ {cs : List AV}, inB.inBL m cs → inB.inBL k cs
  | [], _ => trivial
  | c :: cs, hc => ⟨inB_mono (x := c) h hc.1, inBL_monoL h (cs := cs) hc.2⟩
end
theorem Sim.weak {nb : Nat} (hnb0 : box0.length ≤ nb) (hU : ∀ p ∈ U, inB nb p.1) {g : G} {s t : St} {a : Act} {w : World} (h : Sim mo n w0 F0 box0 U g s a w) (hw : Weak nb s t) : ∃ g', Sim mo n w0 F0 box0 U g' t a w := by
  have henv : EnvOk w0.heap.size w g.F g.tok s.fr g.box t.env a := fun i => by
    rcases agrees_look hw.env (i := i) with ⟨h1, _⟩ | h1
    · rw [h1]; exact h.env i
    · rw [h1]; exact .rep _ _ (.any _)
  have hbl := h.boxlen
  obtain ⟨te, tb, tf⟩ := t
  have hfr : s.fr = tf := hw.fr
  have hbx : s.bx.take tb.length = tb := hw.bx
  subst hfr
  rcases hw.refs with hle | ⟨hE, hX⟩
  · have hle' : s.bx.length ≤ tb.length := hle
    rw [List.take_of_length_le hle'] at hbx
    subst hbx
    exact ⟨g, { h with env := henv }⟩
  · have hE' : inBE tb.length te := hE
    have hX' : inBX tb.length tb := hX
    have hnb : box0.length ≤ tb.length := Nat.le_trans hnb0 hw.nb
    have hget : ∀ {j : Nat} {d : BId}, (g.box.take tb.length)[j]? = some d → j < tb.length ∧ g.box[j]? = some d := fun {j d} hj => by
      rw [List.getElem?_take] at hj
      split at hj
      · exact ⟨by assumption, hj⟩
      · cases hj
    have htl : tb.length ≤ s.bx.length := by have := congrArg List.length hbx; simp at this; omega
    have hbj : ∀ {j : Nat}, j < tb.length → tb[j]? = s.bx[j]? := fun {j} hj => by have h1 := congrArg (fun l => l[j]?) hbx; simp only [List.getElem?_take, if_pos hj] at h1; exact h1.symm
    have hlive : ∀ {j : Nat}, j < tb.length → (live tb j ↔ live s.bx j) := fun hj => by unfold live; rw [hbj hj]
    refine ⟨{ g with box := g.box.take tb.length }, {
      defers := h.defers, size := h.size
      env := fun i => ?_
      held := fun p hp => (h.held p hp).take (inB_mono hw.nb (hU p hp))
      below := h.below, old := h.old, out := h.out
      boxlen := by simp [hbl]; omega
      boxpre := fun j d hj => by
        have hjl := getElem?_lt hj
        show (g.box.take tb.length)[j]? = some d
        rw [List.getElem?_take, if_pos (by omega)]; exact h.boxpre j d hj
      boxin := fun j b c hj => h.boxin j b c (hget hj).2
      boxF := fun j b c hj hl => h.boxF j b c (hget hj).2 ((hlive (hget hj).1).1 hl)
      boxrep := fun j d x hj hx => ?_
      boxinj := fun i j b c c' hi hj li lj => h.boxinj i j b c c' (hget hi).2 (hget hj).2 ((hlive (hget hi).1).1 li) ((hlive (hget hj).1).1 lj)
      cond := h.cond
      toklen := h.toklen
      tokin := h.tokin
      tokbox := fun k b j c hk hj hl => h.tokbox k b j c hk (hget hj).2 ((hlive (hget hj).1).1 hl)
      tokinj := h.tokinj }⟩
    · rcases agrees_look hw.env (i := i) with ⟨_, x, h2, h3⟩ | h1
      · have hx := henv i
        have h3' : look te i = x := h3
        show RepT _ _ _ _ _ _ (look te i) _
        simp only at hx
        rw [h3'] at hx ⊢
        exact hx.take (inBE_mem hE' h2)
      · show RepT _ _ _ _ _ _ (look te i) _
        rw [show look te i = .any from h1]; exact .rep _ _ (.any _)
    · obtain ⟨hjl, hj'⟩ := hget hj
      have hx' : tb[j]? = some x := hx
      have h0 := h.boxrep j d x hj' (by rw [← hbj hjl]; exact hx')
      cases d with
      | blk b c =>
        cases x with
        | cells k cs =>
          obtain ⟨c', t, h1, h2, h3, h4⟩ := h0
          exact ⟨c', t, h1, h2, fun i y hy => ⟨(h3 i y hy).1.take (inBL_mem (inBX_get hX' hx') (List.mem_of_getElem? hy)), (h3 i y hy).2⟩, h4⟩
        | iter s p => exact h0
        | map m => exact h0
        | vmap kk vk m => exact h0
        | dead => exact trivial
      | nil =>
        cases x with
        | cells k cs => exact h0
        | iter s p => exact h0
        | map m => exact h0
        | vmap kk vk m => exact h0
        | dead => exact trivial

theorem renBL_len (π : List Nat) : ∀ cs : List AV, (renB.renBL π cs).length = cs.length
  | [] => rfl
  | c :: cs => by rw [renB.renBL, List.length_cons, List.length_cons, renBL_len π cs]
theorem renBL_get (π : List Nat) : ∀ (cs : List AV) (i : Nat), (renB.renBL π cs)[i]? = (cs[i]?).map (renB π)
  | [], _ => rfl
  | c :: cs, 0 => rfl
  | c :: cs, i + 1 => by rw [renB.renBL, List.getElem?_cons_succ, List.getElem?_cons_succ, renBL_get π cs i]
mutual
/-- a value whose boxes have other numbers -/
theorem ren_rep {B : Nat} {w : World} {F : Nat → Nat} {tok : List (Option Nat)} {fr : Fr} {box : List BId} {π : List Nat} : ∀ {x : AV} {v : Value}, Rep B w F tok fr box (renB π x) v → inB π.length x → Rep B w F tok fr (π.map fun j => box.getD j .nil) x v
  | .any, _, h, _ => by cases h; exact .any _
  | .val _, _, h, _ => by cases h; exact .val _
  | .str _, _, h, _ => by cases h; exact .str _
  | .list _ _, _, h, _ => h.anyBox _ rfl
  | .rptr _, _, h, _ => h.anyBox _ rfl
  | .bptr j o, _, h, hj => by
    have hj : j < π.length := hj
    cases h with
    | bptr _ _ b cap h => exact .bptr _ _ b cap (by rw [List.getElem?_map, List.getElem?_eq_getElem hj]; simp only [Option.map_some, List.getD, List.getElem?_eq_getElem hj, Option.getD_some] at h ⊢; rw [h]; rfl)
  | .bsl j n, _, h, hj => by
    have hj : j < π.length := hj
    cases h with
    | bsl _ _ b cap h hn => exact .bsl _ _ b cap (by rw [List.getElem?_map, List.getElem?_eq_getElem hj]; simp only [Option.map_some, List.getD, List.getElem?_eq_getElem hj, Option.getD_some] at h ⊢; rw [h]; rfl) hn
    | bnil _ h => exact .bnil _ (by rw [List.getElem?_map, List.getElem?_eq_getElem hj]; simp only [Option.map_some, List.getD, List.getElem?_eq_getElem hj, Option.getD_some] at h ⊢; rw [h]; rfl)
  | .bmap j, _, h, hj => by
    have hj : j < π.length := hj
    cases h with
    | bmap _ b cap h => exact .bmap _ b cap (by rw [List.getElem?_map, List.getElem?_eq_getElem hj]; simp only [Option.map_some, List.getD, List.getElem?_eq_getElem hj, Option.getD_some] at h ⊢; rw [h]; rfl)
  | .tag _ x, _, h, hx => by
    cases h with
    | tag _ _ h h1 => exact .tag _ _ (ren_rep (x := x) h hx) h1
  | .agg cs, _, h, hx => by
    cases h with
    | agg _ vs hl h1 hr => exact .agg cs vs (by rw [← hl, renBL_len]) h1 fun i c hc => ren_repL cs hx i c hc _ (hr i _ (by rw [renBL_get, hc]; rfl))
  | .tup cs, _, h, hx => by
    cases h with
    | tup _ vs hl hr => exact .tup cs vs (by rw [← hl, renBL_len]) fun i c hc => ren_repL cs hx i c hc _ (hr i _ (by rw [renBL_get, hc]; rfl))
  | .clo f a b, _, h, hx => by
    cases h with
    | clo _ _ _ vf vc h1 h2 hr1 hr2 => exact .clo f a b vf vc (by rw [← h1, renBL_len]) (by rw [← h2, renBL_len]) (fun i c hc => ren_repL a hx.1 i c hc _ (hr1 i _ (by rw [renBL_get, hc]; rfl))) (fun i c hc => ren_repL b hx.2 i c hc _ (hr2 i _ (by rw [renBL_get, hc]; rfl)))
  | .cond _ _, _, h, _ => by cases h
theorem ren_repL {B : Nat} {w : World} {F : Nat → Nat} {tok : List (Option Nat)} {fr : Fr} {box : List BId} {π : List Nat} : ∀ (cs : List AV), inB.inBL π.length cs → ∀ (i : Nat) c, cs[i]? = some c → ∀ v, Rep B w F tok fr box (renB π c) v → Rep B w F tok fr (π.map fun j => box.getD j .nil) c v
  | [], _, _, _, hc, _, _ => by cases hc
  | d :: cs, hx, 0, c, hc, v, h => by
    have : d = c := by simpa using hc
    subst this
    exact ren_rep (x := d) h hx.1
  | d :: cs, hx, i + 1, c, hc, v, h => ren_repL cs hx.2 i c (by simpa using hc) v h
end
theorem ren_repT {B : Nat} {w : World} {F : Nat → Nat} {tok : List (Option Nat)} {fr : Fr} {box : List BId} {π : List Nat} : ∀ {x : AV} {v : Value}, RepT B w F tok fr box (renB π x) v → inB π.length x → RepT B w F tok fr (π.map fun j => box.getD j .nil) x v
  | .cond g x, v, h, hx => by
    cases h with
    | rep _ _ h => cases h
    | cond _ _ _ h hn => exact .cond g x v (fun hg => ren_repT (x := x) (h hg) hx) hn
  | .any, _, h, hx => .rep _ _ (ren_rep (h.plain fun _ _ e => by cases e) hx)
  | .val _, _, h, hx => .rep _ _ (ren_rep (h.plain fun _ _ e => by cases e) hx)
  | .str _, _, h, hx => .rep _ _ (ren_rep (h.plain fun _ _ e => by cases e) hx)
  | .list _ _, _, h, hx => .rep _ _ (ren_rep (h.plain fun _ _ e => by cases e) hx)
  | .rptr _, _, h, hx => .rep _ _ (ren_rep (h.plain fun _ _ e => by cases e) hx)
  | .bptr _ _, _, h, hx => .rep _ _ (ren_rep (h.plain fun _ _ e => by cases e) hx)
  | .bsl _ _, _, h, hx => .rep _ _ (ren_rep (h.plain fun _ _ e => by cases e) hx)
  | .bmap _, _, h, hx => .rep _ _ (ren_rep (h.plain fun _ _ e => by cases e) hx)
  | .tag _ _, _, h, hx => .rep _ _ (ren_rep (h.plain fun _ _ e => by cases e) hx)
  | .agg _, _, h, hx => .rep _ _ (ren_rep (h.plain fun _ _ e => by cases e) hx)
  | .tup _, _, h, hx => .rep _ _ (ren_rep (h.plain fun _ _ e => by cases e) hx)
  | .clo _ _ _, _, h, hx => .rep _ _ (ren_rep (h.plain fun _ _ e => by cases e) hx)
theorem agreesR_look {π : List Nat} {e : Env} : ∀ {t : Env} {i : Nat}, agreesR π e t → (∃ x, (i, x) ∈ t ∧ look t i = x ∧ look e i = renB π x) ∨ look t i = .any
  | [], i, _ => .inr rfl
  | (j, x) :: t, i, h => by
    rw [look]
    by_cases hi : i = j
    · subst hi
      rw [if_pos rfl]
      exact .inl ⟨x, by simp, rfl, h.1⟩
    · rw [if_neg hi]
      rcases agreesR_look h.2 (i := i) with ⟨y, h2, h3, h4⟩ | h
      · exact .inl ⟨y, by simp [h2], h3, h4⟩
      · exact .inr h
theorem bxR_get {s : List ABox} {π0 : List Nat} : ∀ {π : List Nat} {b : List ABox}, bxR s π0 π b → π.length = b.length ∧ ∀ (i : Nat) x, b[i]? = some x → ∃ j y, π[i]? = some j ∧ s[j]? = some y ∧ BoxSame π0 y x
  | [], [], _ => ⟨rfl, fun i x h => by simp at h⟩
  | [], _ :: _, h => h.elim
  | _ :: _, [], h => h.elim
  | j :: π, x :: b, h => by
    obtain ⟨h1, h2⟩ := bxR_get h.2
    refine ⟨by simp [h1], fun i y hy => ?_⟩
    cases i with
    | zero =>
      obtain ⟨z, hz, hs⟩ := h.1
      simp at hy; subst hy
      exact ⟨j, z, rfl, hz, hs⟩
    | succ i => simpa using h2 i y (by simpa using hy)
theorem BoxSame.dead_iff {π : List Nat} {y x : ABox} (h : BoxSame π y x) : y = .dead ↔ x = .dead := by cases h <;> simp
mutual
theorem renB_id {π : List Nat} {m : Nat} (hπ : ∀ j, j < m → π.getD j 0 = j) : ∀ {x : AV}, inB m x → renB π x = x
  | .any, _ => rfl
  | .val _, _ => rfl
  | .str _, _ => rfl
  | .list _ _, _ => rfl
  | .rptr _, _ => rfl
  | .bptr j _, h => by rw [renB, hπ j h]
  | .bsl j _, h => by rw [renB, hπ j h]
  | .bmap j, h => by rw [renB, hπ j h]
  | .tag _ x, h => by rw [renB, renB_id hπ (x := x) h]
  | .agg cs, h => by rw [renB, renBL_id hπ cs h]
  | .tup cs, h => by rw [renB, renBL_id hπ cs h]
  | .clo _ a b, h => by rw [renB, renBL_id hπ a h.1, renBL_id hπ b h.2]
  | .cond _ x, h => by rw [renB, renB_id hπ (x := x) h]
theorem renBL_id {π : List Nat} {m : Nat} (hπ : ∀ j, j < m → π.getD j 0 = j) : ∀ (cs : List AV), inB.inBL m cs → renB.renBL π cs = cs
  | [], _ => rfl
  | c :: cs, h => by rw [renB.renBL, renB_id hπ (x := c) h.1, renBL_id hπ cs h.2]
end
theorem Sim.weakR {nb : Nat} (hnb0 : box0.length ≤ nb) (hU : ∀ p ∈ U, inB nb p.1) {g : G} {s t : St} {a : Act} {w : World} {π : List Nat} (h : Sim mo n w0 F0 box0 U g s a w) (hw : WeakR nb π s t) : ∃ g', Sim mo n w0 F0 box0 U g' t a w := by
  obtain ⟨te, tb, tf⟩ := t
  obtain ⟨he, hbx, hfr, ⟨hnb, hpre⟩, hinj, hrE, hrX⟩ := hw
  simp only at he hbx hfr hnb hrE hrX
  subst hfr
  obtain ⟨hπl, hget⟩ := bxR_get hbx
  have hbl := h.boxlen
  have hid : ∀ j, j < nb → π.getD j 0 = j := fun j hj => by
    have := congrArg (fun l => l[j]?) hpre
    simp only [List.getElem?_take, if_pos hj, List.getElem?_range hj] at this
    simp [List.getD, this]
  -- box i of the new state
  have hg : ∀ {i : Nat} {d : BId}, (π.map fun j => g.box.getD j .nil)[i]? = some d → ∃ j x y, π[i]? = some j ∧ tb[i]? = some x ∧ s.bx[j]? = some y ∧ BoxSame π y x ∧ g.box[j]? = some d := fun {i d} hd => by
    have hi := getElem?_lt hd
    rw [List.length_map, hπl] at hi
    obtain ⟨j, y, h1, h2, h3⟩ := hget i _ (List.getElem?_eq_getElem hi)
    have hj := getElem?_lt h2
    rw [List.getElem?_map, h1, Option.map_some, List.getD, List.getElem?_eq_getElem (by omega : j < g.box.length)] at hd
    exact ⟨j, _, y, h1, List.getElem?_eq_getElem hi, h2, h3, by rw [List.getElem?_eq_getElem (by omega : j < g.box.length)]; exact hd⟩
  have hlive : ∀ {i j : Nat} {x y : ABox}, tb[i]? = some x → s.bx[j]? = some y → BoxSame π y x → (live tb i ↔ live s.bx j) := fun {i j x y} hx hy hs => by
    unfold live; rw [hx, hy]
    simp only [ne_eq, Option.some.injEq, hs.dead_iff]
  have hinj' : ∀ {i k j : Nat}, π[i]? = some j → π[k]? = some j → i = k := fun {i k j} h1 h2 => (List.getElem?_inj (getElem?_lt h1) hinj).1 (h1.trans h2.symm)
  refine ⟨{ g with box := π.map fun j => g.box.getD j .nil }, {
    defers := h.defers, size := h.size
    env := fun i => ?_
    held := fun p hp => ren_repT (by rw [renB_id hid (hU p hp)]; exact h.held p hp) (inB_mono (by rw [hπl]; exact hnb) (hU p hp))
    below := h.below, old := h.old, out := h.out
    boxlen := by rw [List.length_map, hπl]
    boxpre := fun j d hj => by
      have hjl := getElem?_lt hj
      have hπj : π[j]? = some j := by
        have := congrArg (fun l => l[j]?) hpre
        simpa only [List.getElem?_take, if_pos (show j < nb by omega), List.getElem?_range (show j < nb by omega)] using this
      show (π.map fun j => g.box.getD j .nil)[j]? = some d
      rw [List.getElem?_map, hπj, Option.map_some, List.getD, h.boxpre j d hj]; rfl
    boxin := fun i b c hi => by obtain ⟨j, _, _, _, _, _, _, hj⟩ := hg hi; exact h.boxin j b c hj
    boxF := fun i b c hi hl => by obtain ⟨j, x, y, _, hx, hy, hs, hj⟩ := hg hi; exact h.boxF j b c hj ((hlive hx hy hs).1 hl)
    boxrep := fun i d x hi hx => ?_
    boxinj := fun i k b c c' hi hk li lk => by
      obtain ⟨j, x, y, p1, hx, hy, hs, hj⟩ := hg hi
      obtain ⟨j', x', y', p2, hx', hy', hs', hj'⟩ := hg hk
      have := h.boxinj j j' b c c' hj hj' ((hlive hx hy hs).1 li) ((hlive hx' hy' hs').1 lk)
      subst this
      exact hinj' p1 p2
    cond := h.cond
    toklen := h.toklen
    tokin := h.tokin
    tokbox := fun k b i c hk hi hl => by obtain ⟨j, x, y, _, hx, hy, hs, hj⟩ := hg hi; exact h.tokbox k b j c hk hj ((hlive hx hy hs).1 hl)
    tokinj := h.tokinj }⟩
  · rcases agreesR_look he (i := i) with ⟨x, h2, h3, h4⟩ | h1
    · have hx := h.env i
      show RepT _ _ _ _ _ _ (look te i) _
      rw [h3]
      rw [h4] at hx
      exact ren_repT hx (by rw [hπl]; exact inBE_mem hrE h2)
    · show RepT _ _ _ _ _ _ (look te i) _
      rw [h1]; exact .rep _ _ (.any _)
  · obtain ⟨j, x', y, hπj, hx', hy, hs, hj⟩ := hg hi
    have hx : tb[i]? = some x := hx
    rw [hx'] at hx; cases hx
    have h0 := h.boxrep j d y hj hy
    cases hs with
    | cells k cs hn =>
      cases d with
      | blk b c =>
        obtain ⟨c', t, h1, h2, h3, h4⟩ := h0
        rw [noRefL_all, List.all_eq_true] at hn
        exact ⟨c', t, h1, h2, fun q z hz => ⟨(h3 q z hz).1.anyBox _ (hn z (List.mem_of_getElem? hz)), (h3 q z hz).2⟩, h4⟩
      | nil => exact h0
    | iter s p => cases d <;> exact h0
    | map m => cases d <;> exact h0
    | vmap kk vk m => cases d <;> exact h0
    | dead => cases d <;> exact trivial
    | ren k cs =>
      cases d with
      | blk b c =>
        obtain ⟨c', t, h1, h2, h3, h4⟩ := h0
        exact ⟨c', t, h1, by rw [renBL_len] at h2; exact h2, fun q z hz => ⟨ren_repL cs (by rw [hπl]; exact inBX_get hrX hx') q z hz _ (h3 q _ (by rw [renBL_get, hz]; rfl)).1, (h3 q _ (by rw [renBL_get, hz]; rfl)).2⟩, h4⟩
      | nil =>
        have h0 : renB.renBL π cs = [] := h0
        exact List.eq_nil_of_length_eq_zero (by rw [← renBL_len π cs, h0]; rfl)

theorem aCode_sound {nb : Nat} (hnb : box0.length ≤ nb) (hU : ∀ p ∈ U, inB nb p.1) (K : List Nat) : ∀ (c : Code) (Q : Exit → St → Prop) (s : St), aCode (ACon mo P) K nb (cCode P n c) Q s → ∀ (g : G) (a : Act) (w : World), Sim mo n w0 F0 box0 U g s a w →
    c.wp P (fun e a' w' => ∃ g' s', Sim mo n w0 F0 box0 U g' s' a' w' ∧ Q e s') a w := by
  intro c
  induction c with
  | skip => intro Q s h g a w hs; exact wp_skip ⟨g, s, hs, h⟩
  | region id ops d =>
    intro Q s h g a w hs
    obtain ⟨e, b, f⟩ := s
    unfold cCode at h
    split at h
    · rename_i hh
      rw [Bool.and_eq_true] at hh
      obtain ⟨hgd, hdst⟩ := hh
      cases d with
      | false => exact wp_region_list (aOps_sound hgd hdst (fun g' e' bx' f' a' w' S hk => ⟨g', _, S, hk⟩) ops.toList (fun _ h => h) g e b f a w hs h)
      | true =>
        simp only at h
        split at h
        · rename_i hfo
          have tree : ∀ lend : Bool, aCode (ACon mo P) K nb (cTree P lend ops) Q ⟨e, b, f⟩ → Code.wp P (.region id ops true) (fun e a' w' => ∃ g' s', Sim mo n w0 F0 box0 U g' s' a' w' ∧ Q e s') a w := fun lend h => by
            unfold cTree at h
            split at h
            · rename_i zl hl
              obtain ⟨z, l⟩ := zl
              unfold treeOrd at hl
              split at hl
              · rename_i z' hz
                split at hl
                · rename_i l' hl'
                  cases hl
                  unfold treeZ at hz
                  split at hz
                  · rename_i hc
                    have hp := List.find?_some hz
                    have hzs := List.mem_range.1 (List.mem_of_find?_eq_some hz)
                    simp only [Bool.and_eq_true] at hp
                    obtain ⟨⟨hsk, hch⟩, htl⟩ := hp
                    refine wp_mono (Q := fun e a' w' => e = .normal ∧ ∃ g' s', Sim mo n w0 F0 box0 U g' s' a' w' ∧ Q e s') (wp_region_any hfo ?_) (fun e a' w' h => h.2)
                    have hinv : HeadInv .any ops z (Array.replicate ops.size false) := ⟨by simp, fun j oj _ hl => (by rw [getD_replicate_false] at hl; cases hl), fun t _ ht' => (by simp [ht'])⟩
                    obtain ⟨kk, hkk, hrun⟩ : ∃ kk : Env → List ABox → Fr → Prop, (∀ e b f, kk e b f → aOps (ACon mo P) (fun e b f => Q .normal ⟨e, b, f⟩) (cOps P ops.toList |>.drop z) e b f) ∧
                        aHT (ACon mo P) lend f.length (fun e b f => forceEnv e (K ++ dsts ops.toList) fun e => forceBx b fun b => kk e b f) (l.map (aoAt P ops)) e b f := by
                      rcases h with ⟨st, hrun, hnext⟩ | hrun
                      · refine ⟨_, fun e b f hk => ?_, hrun⟩
                        obtain ⟨h1, h2, h3⟩ := hk
                        obtain ⟨e1, b1, f1⟩ := st
                        simp only at h1 h2 h3
                        rw [h1, h2, h3]; exact hnext
                      · exact ⟨_, fun e b f hk => hk, hrun⟩
                    have := aTree_sound (lend := lend) (m0 := f.length) (ws := w.drew) (z := z) (k := fun e b f => forceEnv e (K ++ dsts ops.toList) fun e => forceBx b fun b => kk e b f)
                      (Q' := fun e a' w' => e = .normal ∧ ∃ g' s', Sim mo n w0 F0 box0 U g' s' a' w' ∧ Q e s')
                      (L := fun listed a' w' => HeadInv .any ops z listed ∧ Region.ready .any ops listed = [z] ∧ ∃ g' e1 b1 f1, Sim mo n w0 F0 box0 U g' ⟨e1, b1, f1⟩ a' w' ∧ aOps (ACon mo P) (fun e b f => Q .normal ⟨e, b, f⟩) (cOps P ops.toList |>.drop z) e1 b1 f1)
                      hgd hdst hc hsk hch hzs (fun c a w h => by cases h.1) (fun listed a' w' h j hj => (by rw [h.2.1] at hj; exact Nat.le_of_eq (List.mem_singleton.1 hj).symm))
                      (fun listed g' e' bx' f' a' w' inv hr S hk => ⟨inv, hr, g', _, _, _, S.norm (K ++ dsts ops.toList), hkk _ _ _ (by rw [forceEnv_eq, forceBx_eq] at hk; exact hk)⟩) z (!lend) _ l hl' g e b f a w.drew hinv (hs.world (Bel.refl _ _).drew) (fun _ => Bel.refl _ _) (fun _ k b hm hk => by rw [List.getElem?_eq_none (by have := hs.toklen; simp only at this; omega)] at hk; cases hk) (fun hl => ⟨by simpa using hl, rfl⟩) hrun
                    have h2 := wpAny_of_T (r := ops.size - z) (fun listed a' w' hL => ?_) _ _ _ _ this
                    · rw [show z + (ops.size - z) = ops.size by omega] at h2
                      exact h2
                    · obtain ⟨inv, hr, g', e1, b1, f1, S, hnext⟩ := hL
                      refine wpAny_tail hch htl (ops.size - z) z listed a' w' (by omega) (Nat.le_refl _) inv.size ⟨fun j hj => ?_, fun j hj hj' => inv.tail j hj hj'⟩ ?_
                      · cases hlj : listed.getD j false with
                        | true => rfl
                        | false => exact absurd (by rw [hr]; simp : z ∈ Region.ready .any ops listed) (tail_waits hsk hch hzs inv _ j rfl hj (getD_in (by rw [inv.size]; omega) hlj) z (Nat.le_refl _))
                      · refine aOps_sound (k := fun e b f => Q .normal ⟨e, b, f⟩) hgd hdst (fun g' e' bx' f' a' w' S hk => ⟨rfl, g', _, S, hk⟩) (ops.toList.drop z) (fun o ho => List.mem_of_mem_drop ho) g' e1 b1 f1 a' w' S ?_
                        unfold cOps at hnext
                        rw [← List.map_drop] at hnext
                        exact hnext
                  · cases hz
                · cases hl
              · cases hl
            · exact h.no
          unfold cDraw at h
          split at h
          · exact tree true h
          split at h
          · rename_i zl hl
            obtain ⟨z, l⟩ := zl
            unfold heldOrd at hl
            split at hl
            · rename_i z' hz
              split at hl
              · rename_i l' hl'
                cases hl
                unfold heldZ at hz
                split at hz
                · rename_i hc
                  rw [Bool.and_eq_true] at hc
                  have hp := List.find?_some hz
                  have hzs := List.mem_range.1 (List.mem_of_find?_eq_some hz)
                  simp only [Bool.and_eq_true] at hp
                  obtain ⟨⟨hsk, hch⟩, htl⟩ := hp
                  refine wp_mono (Q := fun e a' w' => e = .normal ∧ ∃ g' s', Sim mo n w0 F0 box0 U g' s' a' w' ∧ Q e s') (wp_region_any hfo ?_) (fun e a' w' h => h.2)
                  have hinv : HeadInv .any ops z (Array.replicate ops.size false) := ⟨by simp, fun j oj _ hl => (by rw [getD_replicate_false] at hl; cases hl), fun t _ ht' => (by simp [ht'])⟩
                  have := aHeld_sound (m0 := f.length) (ws := w.drew) (z := z) (k := fun e b f => aOps (ACon mo P) (fun e b f => Q .normal ⟨e, b, f⟩) (cOps P ops.toList |>.drop z) e b f)
                    (Q' := fun e a' w' => e = .normal ∧ ∃ g' s', Sim mo n w0 F0 box0 U g' s' a' w' ∧ Q e s')
                    (L := fun listed a' w' => HeadInv .any ops z listed ∧ Region.ready .any ops listed = [z] ∧ ∃ g' e' bx' f', Sim mo n w0 F0 box0 U g' ⟨e', bx', f'⟩ a' w' ∧ aOps (ACon mo P) (fun e b f => Q .normal ⟨e, b, f⟩) (cOps P ops.toList |>.drop z) e' bx' f')
                    hgd hdst hc.2 hsk hch hzs (fun c a w h => by cases h.1) (fun listed a' w' h j hj => (by rw [h.2.1] at hj; exact Nat.le_of_eq (List.mem_singleton.1 hj).symm))
                    (fun listed g' e' bx' f' a' w' inv hr S hk => ⟨inv, hr, g', e', bx', f', S, hk⟩) z true _ l hl' g e b f a w.drew hinv (hs.world (Bel.refl _ _).drew) (Bel.refl _ _) (fun k b hm hk => by rw [List.getElem?_eq_none (by have := hs.toklen; simp only at this; omega)] at hk; cases hk) (fun _ => rfl) h
                  have h2 := wpAny_of_T (r := ops.size - z) (fun listed a' w' hL => ?_) _ _ _ _ this
                  · rw [show z + (ops.size - z) = ops.size by omega] at h2
                    exact h2
                  · obtain ⟨inv, hr, g', e', bx', f', S, hk⟩ := hL
                    refine wpAny_tail hch htl (ops.size - z) z listed a' w' (by omega) (Nat.le_refl _) inv.size ⟨fun j hj => ?_, fun j hj hj' => inv.tail j hj hj'⟩ ?_
                    · cases hlj : listed.getD j false with
                      | true => rfl
                      | false => exact absurd (by rw [hr]; simp : z ∈ Region.ready .any ops listed) (tail_waits hsk hch hzs inv _ j rfl hj (getD_in (by rw [inv.size]; omega) hlj) z (Nat.le_refl _))
                    · refine aOps_sound (k := fun e b f => Q .normal ⟨e, b, f⟩) hgd hdst (fun g' e' bx' f' a' w' S hk => ⟨rfl, g', _, S, hk⟩) (ops.toList.drop z) (fun o ho => List.mem_of_mem_drop ho) g' e' bx' f' a' w' S ?_
                      unfold cOps at hk
                      rw [← List.map_drop] at hk
                      exact hk
                · cases hz
              · cases hl
            · cases hl
          · split at h
            · rename_i hlex
              rw [Bool.and_eq_true] at hlex
              refine wp_region_quiet (C := Bel mo w.heap.size w) hfo hlex.1 (Bel.refl _ _).drew ?_
              exact aDraw_sound (g := g) (f := f) hgd hdst (fun e' a' S hk w' hw => ⟨g, _, S.world hw, hk⟩) ops.toList (fun _ h => h) e a hs h
            · exact tree _ h
        · exact h.no
    · exact h.no
  | seq x y ihx ihy =>
    intro Q s h g a w hs
    refine wp_seq (wp_mono (ihx _ s h g a w hs) ?_)
    rintro e a' w' ⟨g', s', S, hq⟩
    cases e with
    | normal => exact ihy Q s' hq g' a' w' S
    | _ => exact ⟨g', s', S, hq⟩
  | cond c x y ihx ihy =>
    intro Q s h g a w hs
    obtain ⟨e, bx, f⟩ := s
    obtain ⟨v, h1, hv⟩ := evG_sound hs.env h
    obtain ⟨b, rfl, h2⟩ := gBool_inv h1
    rw [forceEnv_eq, forceBx_eq] at h2
    obtain ⟨h3, h4⟩ := h2
    refine wp_cond hv.val_inv ?_
    cases b with
    | true => exact ihx Q _ (h3 rfl) g a w (hs.norm K)
    | false => exact ihy Q _ (h4 rfl) g a w (hs.norm K)
  | block id body ih =>
    intro Q s h g a w hs
    refine wp_block (wp_mono (ih _ s h g a w hs) ?_)
    rintro e a' w' ⟨g', s', S, hq⟩
    cases e with
    | exit id' =>
      simp only [blockK] at hq
      simp only [Exit.inBlock]
      split at hq
      · rename_i he; rw [if_pos he]; exact ⟨g', s', S, hq⟩
      · rename_i he; rw [if_neg he]; exact ⟨g', s', S, hq⟩
    | _ => exact ⟨g', s', S, hq⟩
  | loop body ih =>
    intro Q s h g a w hs
    rcases h with ⟨α, I, C, μ, ⟨x0, hc0, hw0⟩, hround⟩ | ⟨α, I, C, μ, ⟨x0, hc0, π0, hw0⟩, hround⟩
    · obtain ⟨g0, S0⟩ := hs.weak hnb hU hw0
      refine wp_loop_ghost (fun m a w => ∃ x g, C x ∧ μ x = m ∧ Sim mo n w0 F0 box0 U g (I x) a w) (μ x0) ⟨x0, _, hc0, rfl, S0⟩ ?_
      rintro m a w ⟨x, g, hc, rfl, S⟩
      refine wp_mono (ih _ _ (hround x hc) g a w S) ?_
      rintro e a' w' ⟨g', s', S', hq⟩
      cases e with
      | normal =>
        obtain ⟨⟨x', hc', hw', hlt⟩⟩ := hq
        obtain ⟨g1, S1⟩ := S'.weak hnb hU hw'
        exact ⟨μ x', hlt, x', _, hc', rfl, S1⟩
      | _ => exact ⟨g', s', S', hq⟩

    · obtain ⟨g0, S0⟩ := hs.weakR hnb hU hw0
      refine wp_loop_ghost (fun m a w => ∃ x g, C x ∧ μ x = m ∧ Sim mo n w0 F0 box0 U g (I x) a w) (μ x0) ⟨x0, _, hc0, rfl, S0⟩ ?_
      rintro m a w ⟨x, g, hc, rfl, S⟩
      refine wp_mono (ih _ _ (hround x hc) g a w S) ?_
      rintro e a' w' ⟨g', s', S', hq⟩
      cases e with
      | normal =>
        obtain ⟨⟨x', hc', ⟨π', hw'⟩, hlt⟩⟩ := hq
        obtain ⟨g1, S1⟩ := S'.weakR hnb hU hw'
        exact ⟨μ x', hlt, x', _, hc', rfl, S1⟩
      | _ => exact ⟨g', s', S', hq⟩

  | exit id => intro Q s h g a w hs; exact wp_exit ⟨g, s, hs, h⟩
  | ret => intro Q s h g a w hs; exact wp_ret ⟨g, s, hs, h⟩
  | _ => intro Q s h g a w hs; exact h.no

end
end Abs
end Go.Proofs.Ytkbblglbbfdnpaa
namespace Go.Proofs.Ytkbblglbbfdnpaa
namespace Abs
variable {mo : Bool} {U : List (AV × Value)}
open Go.RowKit

/-- where a result lies -/
inductive RRes where
  | tmp (t : Nat)
  | cell (t : Nat) (agg : Bool) (size : Nat)
  | other

def cRes (P : Program) : ResultVar → RRes
  | .tmp t => .tmp t
  | .cell t ty => if okTy P ty then .cell t (aggTy P ty) (P.cellsOf ty) else .other

def resOne (s : St) (r : RRes) (k : AV → Prop) : Prop :=
  match r with
  | .tmp t => unG true (look s.env t) k
  | .cell t ag sz => ptrCells s.bx (look s.env t) fun cs => takeAV ag sz cs k
  | .other => Stop

def resAll (s : St) : List RRes → (List AV → Prop) → Prop
  | [], k => k []
  | r :: rs, k => resOne s r fun x => resAll s rs fun xs => k (x :: xs)

inductive Final (v r : AV) (f frs : Fr) : Prop | mk : v = r → f = frs → Final v r f frs
inductive FinalT (v r : AV) (b b1 : List ABox) : Prop | mk : v = r → b = b1 → FinalT v r b b1

/-- a slice that is handed back: what its cells hold is named by whoever proves it -/
inductive Freeze (b : List ABox) (f : Fr) (j n : Nat) (k : AV → List ABox → Fr → Prop) : Prop
  | mk (xs : List (List AV)) (cs : List AV) (t sz : Nat) (h1 : b[j]? = some (.cells (.row t sz) cs)) (h2 : cs = xs.flatten) (h3 : xs.length = n) (h4 : ∀ e ∈ xs, e.length = sz) (h5 : ∀ c ∈ cs, noRef c = true)
      (hk : k (.list (some f.length) xs) (b.set j .dead) (f ++ [(t, sz, n)])) : Freeze b f j n k

/-- nil is a slice of the call's own, too -/
inductive FinVal (v : Value) (b : List ABox) (f : Fr) (k : AV → List ABox → Fr → Prop) : Prop
  | keep (hk : k (.val v) b f) : FinVal v b f k
  | nil (t sz : Nat) (hv : v = .slice none 0 0) (hk : k (.list (some f.length) []) b (f ++ [(t, sz, 0)])) : FinVal v b f k

def fin0 (x : AV) (b : List ABox) (f : Fr) (k : AV → List ABox → Fr → Prop) : Prop :=
  match x with
  | .bsl j n => Freeze b f j n k
  | .any => k .any b f
  | .val v => FinVal v b f k
  | .str s => k (.str s) b f
  | .list o xs => k (.list o xs) b f
  | .agg cs => k (.agg cs) b f
  | .tup vs => k (.tup vs) b f
  | .bptr j off => k (.bptr j off) b f
  | .rptr cs => k (.rptr cs) b f
  | .clo g xs ys => k (.clo g xs ys) b f
  | .bmap j => k (.bmap j) b f
  | .tag v x => k (.tag v x) b f
  | .cond _ _ => Stop

def finL (one : AV → List ABox → Fr → (AV → List ABox → Fr → Prop) → Prop) : List AV → List ABox → Fr → (List AV → List ABox → Fr → Prop) → Prop
  | [], b, f, k => k [] b f
  | c :: cs, b, f, k => one c b f fun c b f => finL one cs b f fun cs b f => k (c :: cs) b f

/-- a slice whose elements have slices, too: these first -/
inductive FreezeD (one : AV → List ABox → Fr → (AV → List ABox → Fr → Prop) → Prop) (b : List ABox) (f : Fr) (j n : Nat) (k : AV → List ABox → Fr → Prop) : Prop
  | flat (h : Freeze b f j n k) : FreezeD one b f j n k
  | deep (t sz : Nat) (cs : List AV) (h1 : b[j]? = some (.cells (.row t sz) cs)) (hk : finL one cs b f fun cs' b' f' => b'[j]? = some (.cells (.row t sz) cs) ∧ Freeze (b'.set j (.cells (.row t sz) cs')) f' j n k) : FreezeD one b f j n k
/-- a struct that is handed back, with slices in its fields or without -/
inductive FinAgg (one : AV → List ABox → Fr → (AV → List ABox → Fr → Prop) → Prop) (cs : List AV) (b : List ABox) (f : Fr) (k : AV → List ABox → Fr → Prop) : Prop
  | keep (hk : k (.agg cs) b f) : FinAgg one cs b f k
  | deep (hk : finL one cs b f fun cs b f => k (.agg cs) b f) : FinAgg one cs b f k

def finS (one : AV → List ABox → Fr → (AV → List ABox → Fr → Prop) → Prop) (x : AV) (b : List ABox) (f : Fr) (k : AV → List ABox → Fr → Prop) : Prop :=
  match x with
  | .bsl j n => FreezeD one b f j n k
  | .any => k .any b f
  | .val v => FinVal v b f k
  | .str s => k (.str s) b f
  | .list o xs => k (.list o xs) b f
  | .agg cs => FinAgg one cs b f k
  | .tup vs => k (.tup vs) b f
  | .bptr j off => k (.bptr j off) b f
  | .rptr cs => k (.rptr cs) b f
  | .clo g xs ys => k (.clo g xs ys) b f
  | .bmap j => k (.bmap j) b f
  | .tag v x => k (.tag v x) b f
  | .cond _ _ => Stop
def fin1 : AV → List ABox → Fr → (AV → List ABox → Fr → Prop) → Prop := finS (finS (finS fin0))

def finAll : List AV → List ABox → Fr → (List AV → List ABox → Fr → Prop) → Prop
  | [], b, f, k => k [] b f
  | c :: cs, b, f, k => fin1 c b f fun c b f => finAll cs b f fun cs b f => k (c :: cs) b f

def outK (rs : List RRes) (s : St) (Φ : AV → List ABox → Fr → Prop) : Prop :=
  match rs with
  | [r] => resOne s r fun x => fin1 x s.bx s.fr Φ
  | rs => resAll s rs fun xs => finAll xs s.bx s.fr fun xs b f => Φ (.tup xs) b f
def doneG (rs : List RRes) (Φ : AV → List ABox → Fr → Prop) (e : Exit) (s : St) : Prop :=
  match e with
  | .normal => outK rs s Φ
  | .ret => outK rs s Φ
  | _ => Stop
def doneK (rs : List RRes) (r : AV) (frs : Fr) : Exit → St → Prop := doneG rs fun v _ f => Final v r f frs
/-- what is handed back is plain: what the call has laid for itself does not matter -/
def doneS (rs : List RRes) (r : AV) : Exit → St → Prop := doneG rs fun v _ _ => Final v r [] []
/-- what is handed back is plain, and what is left in the boxes that were lent -/
def doneT (rs : List RRes) (nb : Nat) (r : AV) (b1 : List ABox) (e : Exit) (s : St) : Prop :=
  match e with
  | .normal => (match rs with | [x] => resOne s x fun x => FinalT x r (s.bx.take nb) b1 | rs => resAll s rs fun xs => FinalT (.tup xs) r (s.bx.take nb) b1)
  | .ret => (match rs with | [x] => resOne s x fun x => FinalT x r (s.bx.take nb) b1 | rs => resAll s rs fun xs => FinalT (.tup xs) r (s.bx.take nb) b1)
  | _ => Stop

def argEnv : Nat → List AV → Env
  | _, [] => []
  | i, x :: xs => (i, x) :: argEnv (i + 1) xs

theorem look_argEnv : ∀ (xs : List AV) (i j : Nat), look (argEnv i xs) j = if i ≤ j then (xs[j - i]?).getD .any else .any
  | [], i, j => by simp [argEnv, look]
  | x :: xs, i, j => by
    rw [argEnv, look, look_argEnv xs (i + 1) j]
    by_cases h : j = i
    · subst h; simp
    · rw [if_neg h]
      by_cases h2 : i + 1 ≤ j
      · rw [if_pos h2, if_pos (by omega), show j - i = (j - (i + 1)) + 1 by omega, List.getElem?_cons_succ]
      · rw [if_neg h2, if_neg (by omega)]

/-- what the function's end reads -/
def resRun (a : Act) (rv : ResultVar) : Sem Value := match rv with | .tmp t => pure (a.tmps.getD t undef) | .cell t ty => do loadVar ty (← asAddr (a.tmps.getD t undef))

section
variable {P : Program} {n : Nat} {w0 : World} {F0 : Nat → Nat} {box0 : List BId}

theorem res_one {g : G} {s : St} {a : Act} {w : World} (hs : Sim mo n w0 F0 box0 U g s a w) {rv : ResultVar} {k : AV → Prop} (h : resOne s (cRes P rv) k) :
    ∃ x v, k x ∧ RepT w0.heap.size w g.F g.tok s.fr g.box x v ∧
      (resRun a rv).run P w = .ok v w := by
  cases rv with
  | tmp t =>
    obtain ⟨x, hk, hx⟩ := unG_sound h (hs.env t)
    exact ⟨x, _, hk, hx, rfl⟩
  | cell t ty =>
    by_cases hok : okTy P ty = true
    · rw [cRes, if_pos hok] at h
      replace h : ptrCells s.bx (look s.env t) fun cs => takeAV (aggTy P ty) (P.cellsOf ty) cs k := h
      obtain ⟨cs, b, off, vs, hk, hv, hc⟩ := ptr_rep hs.boxrep h (hs.env t)
      simp only [okTy, Bool.and_eq_true, Option.isSome_iff_exists] at hok
      obtain ⟨⟨d, hd⟩, ⟨i, hi⟩⟩ := hok
      have hsz : P.cellsOf ty = i.size := by simp [Program.cellsOf, hi]
      unfold takeAV at hk
      split at hk
      · rename_i hag
        obtain ⟨hn, hk⟩ := hk
        obtain ⟨h1, h2⟩ := cells_agg P hn hc
        have h3 := h2 w (Below.refl _ _)
        refine ⟨_, _, hk, .rep _ _ h1, ?_⟩
        rw [hsz] at h3 ⊢
        unfold aggTy at hag
        rw [hd] at hag
        cases d <;> simp at hag <;> simp [resRun, hv, asAddr, loadVar, isAgg, run_underlying hd, Go.sizeOf, typeInfo, hi, h3]
      · rename_i hag
        split at hk
        · rename_i c cs'
          obtain ⟨h1, _, h3⟩ := hc 0 c (by simp)
          refine ⟨_, _, hk, .rep _ _ h3, ?_⟩
          have h4 : w.cell? ⟨b, off, none⟩ = some (vs 0) := by simpa using h1
          unfold aggTy at hag
          rw [hd] at hag
          cases d <;> simp at hag <;> simp [resRun, hv, asAddr, loadVar, isAgg, run_underlying hd, h4]
        · exact hk.no
    · rw [cRes, if_neg hok] at h
      exact Stop.no h

theorem res_all {g : G} {s : St} {a : Act} {w : World} (hs : Sim mo n w0 F0 box0 U g s a w) : ∀ (rs : List ResultVar) {k : List AV → Prop}, resAll s (rs.map (cRes P)) k →
    ∃ xs vs, k xs ∧ Both (RepT w0.heap.size w g.F g.tok s.fr g.box) xs vs ∧
      (rs.mapM (resRun a)).run P w = .ok vs w
  | [], k, h => ⟨[], [], h, ⟨rfl, by simp⟩, by simp⟩
  | r :: rs, k, h => by
    obtain ⟨x, v, hk, hx, hr⟩ := res_one (P := P) hs h
    obtain ⟨xs, vs, hk, hb, hrs⟩ := res_all hs rs hk
    refine ⟨x :: xs, v :: vs, hk, Both.cons.2 ⟨hx, hb⟩, ?_⟩
    simp only [List.mapM_cons, Sem.run_bind, Sem.run_pure, hr, Result.andThen_ok, hrs]

theorem mapM_len {a : Act} {w w' : World} : ∀ {rs : List ResultVar} {us : List Value}, (rs.mapM (resRun a)).run P w = .ok us w' → us.length = rs.length
  | [], us, h => by simp at h; rw [h.1]; rfl
  | r :: rs, us, h => by
    simp only [List.mapM_cons, Sem.run_bind] at h
    cases h1 : (resRun a r).run P w with
    | ok v w1 =>
      rw [h1, Result.andThen_ok] at h
      cases h2 : (rs.mapM (resRun a)).run P w1 with
      | ok vs w2 =>
        rw [h2, Result.andThen_ok, Sem.run_pure] at h
        have := mapM_len h2
        cases h
        simp [this]
      | _ => rw [h2] at h; cases h
    | _ => rw [h1] at h; cases h

end

section
variable {P : Program} {n : Nat} {w0 : World} {F0 : Nat → Nat}

/-- a slice's row becomes a slice of the call's own -/
theorem freeze_sound {g : G} {e : Env} {b : List ABox} {f : Fr} {a : Act} {w : World} (hs : Sim mo n w0 F0 [] U g ⟨e, b, f⟩ a w) {j m : Nat} {k : AV → List ABox → Fr → Prop} (h : Freeze b f j m k) {v : Value}
    (hx : Rep w0.heap.size w g.F g.tok f g.box (.bsl j m) v) :
    ∃ g' x b' f', Sim mo n w0 F0 [] U g' ⟨e, b', f'⟩ a w ∧ k x b' f' ∧ Rep w0.heap.size w g'.F g'.tok f' g'.box x v ∧ Later w g.F g.tok f w g'.F g'.tok f' ∧ g'.box = g.box := by
  obtain ⟨xs, cs, t, sz, h1, h2, rfl, h4, h5, hk⟩ := h
  have htl := hs.toklen
  simp only at htl
  have hlive : live b j := fun h => by rw [h1] at h; cases h
  have ld : ∀ {i : Nat}, live (b.set j .dead) i → live b i ∧ i ≠ j := fun {i} h => by
    unfold live at h
    rw [List.getElem?_set] at h
    by_cases hij : j = i
    · subst hij
      rw [if_pos rfl, if_pos (getElem?_lt h1)] at h
      exact absurd rfl h
    · rw [if_neg hij] at h; exact ⟨h, fun h' => hij h'.symm⟩
  have dl : ∀ {i : Nat}, ¬ live b i → ¬ live (b.set j .dead) i := fun h h' => h (ld h').1
  have tokcase : ∀ {y : Option Nat} {q b' : Nat}, (g.tok ++ [y])[q]? = some (some b') → g.tok[q]? = some (some b') ∨ (q = f.length ∧ y = some b') := fun {y q b'} h => by
    rcases getElem?_append_one h with h | ⟨h, h'⟩
    · exact .inl h
    · exact .inr ⟨by omega, h'.symm⟩
  rcases hx.bsl_inv with ⟨bl, cap, hb, hcap, rfl⟩ | ⟨hb, hz, rfl⟩
  · obtain ⟨c, t', hh, hle, hr, rfl, hcs, hcm⟩ := hs.boxrep j _ _ hb h1
    have hF0 := hs.boxF j bl cap hb hlive
    have hbin := hs.boxin j bl cap hb
    have hbw0 : w0.heap.size ≤ bl := by
      rcases hbin.1 with h | ⟨i, h⟩
      · exact h
      · simp at h
    have htb : ∀ q, g.tok[q]? ≠ some (some bl) := fun q hq => hs.tokbox q bl j cap hq hb hlive
    have L : Later w g.F g.tok f w (setF g.F bl (xs.length * sz)) (g.tok ++ [some bl]) (f ++ [(t', sz, xs.length)]) := by
      refine ⟨fun _ _ _ => rfl, fun b' => ?_, fun q t s n hq => ?_⟩
      · by_cases h : b' = bl
        · subst h; rw [hF0]; exact Nat.zero_le _
        · simp [setF, h]
      · have hlt := getElem?_lt hq
        refine ⟨n, by rw [List.getElem?_append_left hlt]; exact hq, Nat.le_refl _, fun _ => ⟨by rw [List.getElem?_append_left (by omega)], fun b' hb' => ⟨rfl, ?_⟩⟩⟩
        have : b' ≠ bl := fun h => htb q (h ▸ hb')
        simp [setF, this]
    refine ⟨{ F := setF g.F bl (xs.length * sz), tok := g.tok ++ [some bl], box := g.box }, _, _, _, {
      defers := hs.defers, size := hs.size
      env := hs.env.later L (fun _ _ h => h)
      held := hs.held.later L (fun _ _ h => h)
      below := hs.below
      old := fun b' h => by simp only [setF]; rw [if_neg (by omega)]; exact hs.old b' h
      out := fun b' h => by simp only [setF]; rw [if_neg (by omega)]; exact hs.out b' h
      boxlen := by simpa using hs.boxlen
      boxpre := hs.boxpre
      boxin := hs.boxin
      boxF := fun i b' c' hi hl => by
        obtain ⟨hl, hij⟩ := ld hl
        have : b' ≠ bl := fun h => hij (hs.boxinj i j b' c' cap hi (h ▸ hb) hl hlive)
        simp only [setF, if_neg this]; exact hs.boxF i b' c' hi hl
      boxrep := fun i d y hd hy => by
        simp only [List.getElem?_set] at hy
        by_cases hij : j = i
        · subst hij
          rw [if_pos rfl] at hy
          split at hy
          · cases hy; cases d <;> exact trivial
          · cases hy
        · rw [if_neg hij] at hy
          exact (hs.boxrep i d y hd hy).later L (fun _ _ h => h) (fun _ _ _ _ => rfl)
      boxinj := fun i i' b' c1 c2 hi hi' l1 l2 => hs.boxinj i i' b' c1 c2 hi hi' (ld l1).1 (ld l2).1
      cond := hs.cond
      toklen := by simp [htl]
      tokin := fun q b' hq => by
        rcases tokcase hq with hq | ⟨_, hq⟩
        · exact hs.tokin q b' hq
        · cases hq; exact ⟨hbw0, hbin.2⟩
      tokbox := fun q b' i c' hq hi => by
        rcases tokcase hq with hq | ⟨_, hq⟩
        · exact dl (hs.tokbox q b' i c' hq hi)
        · cases hq
          intro hl
          obtain ⟨hl, hij⟩ := ld hl
          exact hij (hs.boxinj i j _ c' cap hi hb hl hlive)
      tokinj := fun q q' b' hq hq' => by
        rcases tokcase hq with hq | ⟨e1, hq⟩ <;> rcases tokcase hq' with hq' | ⟨e2, hq'⟩
        · exact hs.tokinj q q' b' hq hq'
        · cases hq'; exact absurd hq (htb q)
        · cases hq; exact absurd hq' (htb q')
        · omega }, hk, ?_, L, rfl⟩
    subst h2
    have hget : ∀ (i q : Nat) (el : List AV) (x : AV), xs[i]? = some el → el[q]? = some x → w.cell? ⟨bl, 0 + i * sz + q, none⟩ = some (c.getD (i * sz + q) undef) ∧ (c.getD (i * sz + q) undef).oneCell' = true ∧
        Rep w0.heap.size w g.F g.tok f [] x (c.getD (i * sz + q) undef) := by
      intro i q el x hi hq
      have hf := flatten_get sz xs i q el x h4 hi hq
      have hlt : i * sz + q < c.size := by have := getElem?_lt hf; omega
      refine ⟨?_, (hr _ x hf).2, (hr _ x hf).1.anyBox [] (h5 x (List.mem_of_getElem? hf))⟩
      rw [Nat.zero_add]
      simp [World.cell?, hh, hlt, Array.getD]
    refine .list (some f.length) xs _ _ sz bl 0 (fun i q => c.getD (i * sz + q) undef) hcap (fun _ => rfl) h4 (fun _ => by simp [setF]) (fun i el q x hi hq => ⟨(hget i q el x hi hq).1, (hget i q el x hi hq).2.1⟩)
      (fun i el q x hi hq => (hget i q el x hi hq).2.2.later L (by simp)) (fun q hq => ?_)
    cases hq
    refine ⟨t', sz, xs.length, by simp, Nat.le_refl _, fun _ => ⟨rfl, ⟨c.toList.take (xs.length * sz), ?_, Or.inr ⟨bl, cap, c, rfl, hbw0, hh, hcap, hcm, hcs, rfl⟩⟩, by rw [← htl]; simp, fun b' hb' => by cases hb'; simp [setF]⟩⟩
    have : xs.length * sz ≤ c.size := by rw [hcs]; exact Nat.mul_le_mul_right _ hcap
    simp; omega
  · have hxs : xs = [] := List.eq_nil_of_length_eq_zero hz
    subst hxs
    have L : Later w g.F g.tok f w g.F (g.tok ++ [none]) (f ++ [(t, sz, ([] : List (List AV)).length)]) := by
      refine ⟨fun _ _ _ => rfl, fun _ => Nat.le_refl _, fun q t s n hq => ?_⟩
      have hlt := getElem?_lt hq
      exact ⟨n, by rw [List.getElem?_append_left hlt]; exact hq, Nat.le_refl _, fun _ => ⟨by rw [List.getElem?_append_left (by omega)], fun b' hb' => ⟨rfl, rfl⟩⟩⟩
    refine ⟨{ F := g.F, tok := g.tok ++ [none], box := g.box }, _, _, _, {
      defers := hs.defers, size := hs.size
      env := hs.env.later L (fun _ _ h => h)
      held := hs.held.later L (fun _ _ h => h)
      below := hs.below, old := hs.old, out := hs.out
      boxlen := by simpa using hs.boxlen
      boxpre := hs.boxpre
      boxin := hs.boxin
      boxF := fun i b' c' hi hl => hs.boxF i b' c' hi (ld hl).1
      boxrep := fun i d y hd hy => by
        simp only [List.getElem?_set] at hy
        by_cases hij : j = i
        · subst hij
          rw [if_pos rfl] at hy
          split at hy
          · cases hy; cases d <;> exact trivial
          · cases hy
        · rw [if_neg hij] at hy
          exact (hs.boxrep i d y hd hy).later L (fun _ _ h => h) (fun _ _ _ _ => rfl)
      boxinj := fun i i' b' c1 c2 hi hi' l1 l2 => hs.boxinj i i' b' c1 c2 hi hi' (ld l1).1 (ld l2).1
      cond := hs.cond
      toklen := by simp [htl]
      tokin := fun q b' hq => by
        rcases tokcase hq with hq | ⟨_, hq⟩
        · exact hs.tokin q b' hq
        · cases hq
      tokbox := fun q b' i c' hq hi => by
        rcases tokcase hq with hq | ⟨_, hq⟩
        · exact dl (hs.tokbox q b' i c' hq hi)
        · cases hq
      tokinj := fun q q' b' hq hq' => by
        rcases tokcase hq with hq | ⟨e1, hq⟩ <;> rcases tokcase hq' with hq' | ⟨e2, hq'⟩
        · exact hs.tokinj q q' b' hq hq'
        · cases hq'
        · cases hq
        · omega }, hk, ?_, L, rfl⟩
    refine .list (some f.length) [] none 0 sz 0 0 (fun _ _ => undef) (Nat.le_refl _) (fun h => absurd rfl h) (by simp) (fun h => absurd rfl h) (by simp) (by simp) (fun q hq => ?_)
    cases hq
    exact ⟨t, sz, 0, by simp, Nat.le_refl _, fun _ => ⟨rfl, ⟨[], World.ownsRow_nil w _ t sz⟩, by rw [← htl]; simp, by simp⟩⟩

theorem Later.trans {w w' w'' : World} {F F' F'' : Nat → Nat} {tok tok' tok'' : List (Option Nat)} {fr fr' fr'' : Fr} (h : Later w F tok fr w' F' tok' fr') (h' : Later w' F' tok' fr' w'' F'' tok'' fr'') : Later w F tok fr w'' F'' tok'' fr'' := by
  refine ⟨fun b i hi => (h'.cell b i (Nat.lt_of_lt_of_le hi (h.le b))).trans (h.cell b i hi), fun b => Nat.le_trans (h.le b) (h'.le b), fun k t s n hk => ?_⟩
  obtain ⟨n', h1, h2, h3⟩ := h.tok k t s n hk
  obtain ⟨n'', h4, h5, h6⟩ := h'.tok k t s n' h1
  refine ⟨n'', h4, Nat.le_trans h2 h5, fun he => ?_⟩
  have e1 : n' = n := by omega
  obtain ⟨g1, g2⟩ := h3 e1
  obtain ⟨g3, g4⟩ := h6 (by omega)
  refine ⟨g3.trans g1, fun b hb => ?_⟩
  obtain ⟨g5, g6⟩ := g2 b hb
  obtain ⟨g7, g8⟩ := g4 b (by rw [g1]; exact hb)
  exact ⟨g7.trans g5, g8.trans g6⟩

/-- what ends a function: the state that it goes on from, and what its result then is -/
def Ends (mo : Bool) (n : Nat) (w0 : World) (F0 : Nat → Nat) (U : List (AV × Value)) (g : G) (e : Env) (_b : List ABox) (f : Fr) (a : Act) (w : World) (v : Value) (k : AV → List ABox → Fr → Prop) : Prop :=
  ∃ g' x b' f', Sim mo n w0 F0 [] U g' ⟨e, b', f'⟩ a w ∧ k x b' f' ∧ Rep w0.heap.size w g'.F g'.tok f' g'.box x v ∧ Later w g.F g.tok f w g'.F g'.tok f' ∧ g'.box = g.box

theorem finVal_sound {g : G} {e : Env} {b : List ABox} {f : Fr} {a : Act} {w : World} (hs : Sim mo n w0 F0 [] U g ⟨e, b, f⟩ a w) {u : Value} {k : AV → List ABox → Fr → Prop} (h : FinVal u b f k) {v : Value}
    (hx : RepT w0.heap.size w g.F g.tok f g.box (.val u) v) : Ends mo n w0 F0 U g e b f a w v k := by
  rcases h with hk | ⟨t, sz, rfl, hk⟩
  · exact ⟨g, _, b, f, hs, hk, hx.plain (by simp), Later.refl _ _ _ _, rfl⟩
  · have hv := hx.val_inv
    subst hv
    have htl := hs.toklen
    simp only at htl
    have tokcase : ∀ {q b' : Nat}, (g.tok ++ [none])[q]? = some (some b') → g.tok[q]? = some (some b') := fun {q b'} h => by
      rcases getElem?_append_one h with h | ⟨_, h'⟩
      · exact h
      · cases h'
    have L : Later w g.F g.tok f w g.F (g.tok ++ [none]) (f ++ [(t, sz, 0)]) := by
      refine ⟨fun _ _ _ => rfl, fun _ => Nat.le_refl _, fun q t s n hq => ?_⟩
      have hlt := getElem?_lt hq
      exact ⟨n, by rw [List.getElem?_append_left hlt]; exact hq, Nat.le_refl _, fun _ => ⟨by rw [List.getElem?_append_left (by omega)], fun b' hb' => ⟨rfl, rfl⟩⟩⟩
    refine ⟨{ F := g.F, tok := g.tok ++ [none], box := g.box }, _, b, _, { hs with
      env := hs.env.later L (fun _ _ h => h)
      held := hs.held.later L (fun _ _ h => h)
      boxrep := hs.boxrep.later L (fun _ _ _ _ _ => rfl)
      cond := hs.cond
      toklen := by simp [htl]
      tokin := fun q b' hq => hs.tokin q b' (tokcase hq)
      tokbox := fun q b' i c' hq hi => hs.tokbox q b' i c' (tokcase hq) hi
      tokinj := fun q q' b' hq hq' => hs.tokinj q q' b' (tokcase hq) (tokcase hq') }, hk, ?_, L, rfl⟩
    refine .list (some f.length) [] none 0 sz 0 0 (fun _ _ => undef) (Nat.le_refl _) (fun h => absurd rfl h) (by simp) (fun h => absurd rfl h) (by simp) (by simp) (fun q hq => ?_)
    cases hq
    exact ⟨t, sz, 0, by simp, Nat.le_refl _, fun _ => ⟨rfl, ⟨[], World.ownsRow_nil w _ t sz⟩, by rw [← htl]; simp, by simp⟩⟩

theorem fin0_sound {g : G} {e : Env} {b : List ABox} {f : Fr} {a : Act} {w : World} (hs : Sim mo n w0 F0 [] U g ⟨e, b, f⟩ a w) {x : AV} {k : AV → List ABox → Fr → Prop} (h : fin0 x b f k) {v : Value}
    (hx : RepT w0.heap.size w g.F g.tok f g.box x v) : Ends mo n w0 F0 U g e b f a w v k := by
  cases x with
  | bsl j m => exact freeze_sound hs h (hx.plain (by simp))
  | val u => exact finVal_sound hs h hx
  | cond g y => exact Stop.no h
  | _ => exact ⟨g, _, b, f, hs, h, hx.plain (by simp), Later.refl _ _ _ _, rfl⟩

theorem finL_sound {e : Env} {a : Act} {w : World} (one : AV → List ABox → Fr → (AV → List ABox → Fr → Prop) → Prop)  (all : List AV → List ABox → Fr → (List AV → List ABox → Fr → Prop) → Prop)
    (h0 : ∀ b f k, all [] b f k → k [] b f) (h1 : ∀ c cs b f k, all (c :: cs) b f k → one c b f fun c b f => all cs b f fun cs b f => k (c :: cs) b f)
    (hone : ∀ {g : G} {b : List ABox} {f : Fr}, Sim mo n w0 F0 [] U g ⟨e, b, f⟩ a w → ∀ {x : AV} {k : AV → List ABox → Fr → Prop}, one x b f k → ∀ {v : Value}, RepT w0.heap.size w g.F g.tok f g.box x v → Ends mo n w0 F0 U g e b f a w v k) :
    ∀ (xs : List AV) {g : G} {b : List ABox} {f : Fr}, Sim mo n w0 F0 [] U g ⟨e, b, f⟩ a w → ∀ {k : List AV → List ABox → Fr → Prop}, all xs b f k → ∀ {vs : List Value}, Both (RepT w0.heap.size w g.F g.tok f g.box) xs vs →
      ∃ g' ys b' f', Sim mo n w0 F0 [] U g' ⟨e, b', f'⟩ a w ∧ k ys b' f' ∧ Both (Rep w0.heap.size w g'.F g'.tok f' g'.box) ys vs ∧ Later w g.F g.tok f w g'.F g'.tok f' ∧ g'.box = g.box
  | [], g, b, f, hs, k, h, [], _ => ⟨g, [], b, f, hs, h0 _ _ _ h, ⟨rfl, by simp⟩, Later.refl _ _ _ _, rfl⟩
  | [], _, _, _, _, _, _, _ :: _, hb => by simp [Both] at hb
  | _ :: _, _, _, _, _, _, _, [], hb => by simp [Both] at hb
  | x :: xs, g, b, f, hs, k, h, v :: vs, hb => by
    obtain ⟨b1, b2⟩ := Both.cons.1 hb
    obtain ⟨g', x', b', f', S, hk, hx, L, hbx⟩ := hone hs (h1 _ _ _ _ _ h) b1
    have b2' : Both (RepT w0.heap.size w g'.F g'.tok f' g'.box) xs vs := ⟨b2.1, fun i y u hy hu => (b2.2 i y u hy hu).later L (fun j d h => by rw [hbx]; exact h)⟩
    obtain ⟨g'', ys, b'', f'', S', hk', hys, L', hbx'⟩ := finL_sound one all h0 h1 hone xs S hk b2'
    exact ⟨g'', x' :: ys, b'', f'', S', hk', Both.cons.2 ⟨hx.later L' (fun j d h => by rw [hbx']; exact h), hys⟩, L.trans L', hbx'.trans hbx⟩

/-- what a box holds, said in other words -/
theorem Sim.reBox {g : G} {e : Env} {b : List ABox} {f : Fr} {a : Act} {w : World} (hs : Sim mo n w0 F0 [] U g ⟨e, b, f⟩ a w) {j : Nat} {x y : ABox} (hx : b[j]? = some x) (hxd : x ≠ .dead) (hyd : y ≠ .dead)
    (h : ∀ d, g.box[j]? = some d → BoxOk w0.heap.size w g.F g.tok f g.box d y) : Sim mo n w0 F0 [] U g ⟨e, b.set j y, f⟩ a w := by
  have hl : live b j := fun h => by rw [hx] at h; exact hxd (Option.some.inj h)
  exact { hs with
    boxlen := by simpa using hs.boxlen
    boxF := fun i b c hi hl' => hs.boxF i b c hi ((live_set hyd hl).1 hl')
    boxrep := fun i d z hd hz => by
      simp only [List.getElem?_set] at hz
      by_cases hij : j = i
      · subst hij
        rw [if_pos rfl] at hz
        split at hz
        · cases hz; exact h d hd
        · cases hz
      · rw [if_neg hij] at hz
        exact hs.boxrep i d z hd hz
    boxinj := fun i i' b c c' hi hi' l l' => hs.boxinj i i' b c c' hi hi' ((live_set hyd hl).1 l) ((live_set hyd hl).1 l')
    tokbox := fun q b i c hq hi hl' => hs.tokbox q b i c hq hi ((live_set hyd hl).1 hl') }

theorem freezeD_sound {e : Env} {a : Act} {w : World} (one : AV → List ABox → Fr → (AV → List ABox → Fr → Prop) → Prop)
    (hone : ∀ {g : G} {b : List ABox} {f : Fr}, Sim mo n w0 F0 [] U g ⟨e, b, f⟩ a w → ∀ {x : AV} {k : AV → List ABox → Fr → Prop}, one x b f k → ∀ {v : Value}, RepT w0.heap.size w g.F g.tok f g.box x v → Ends mo n w0 F0 U g e b f a w v k)
    {g : G} {b : List ABox} {f : Fr} (hs : Sim mo n w0 F0 [] U g ⟨e, b, f⟩ a w) {j m : Nat} {k : AV → List ABox → Fr → Prop} (h : FreezeD one b f j m k) {v : Value}
    (hx : Rep w0.heap.size w g.F g.tok f g.box (.bsl j m) v) : Ends mo n w0 F0 U g e b f a w v k := by
  rcases h with h | ⟨t, sz, cs, h1, hk⟩
  · exact freeze_sound hs h hx
  · rcases hx.bsl_inv with ⟨bl, cap, hb, hcap, rfl⟩ | ⟨hb, hz, rfl⟩
    · obtain ⟨c, t', hh, hle, hr, rfl, hcs, hcm⟩ := hs.boxrep j _ _ hb h1
      have hget : ∀ i, i < cs.length → (c.toList.take cs.length)[i]? = some (c.getD i undef) := fun i hi => by
        have : i < c.size := by omega
        rw [List.getElem?_take, if_pos hi]; simp [Array.getD, this]
      have hB : Both (RepT w0.heap.size w g.F g.tok f g.box) cs (c.toList.take cs.length) := ⟨by simp; omega, fun i x u hx hu => by
        rw [hget i (getElem?_lt hx)] at hu; cases hu; exact .rep _ _ (hr i x hx).1⟩
      obtain ⟨g', ys, b', f', S, ⟨hb1, hF⟩, hys, L, hbx⟩ := finL_sound one (finL one) (fun _ _ _ h => h) (fun _ _ _ _ _ h => h) hone cs hs hk hB
      have hyl : ys.length = cs.length := by have := hys.1; simp at this; omega
      have S' := S.reBox (y := .cells (.row t' sz) ys) hb1 (by simp) (by simp) (fun d hd => by
        rw [hbx, hb] at hd; cases hd
        refine ⟨c, t', hh, by omega, fun i x hx => ⟨?_, ?_⟩, rfl, hcs, hcm⟩
        · have hi := getElem?_lt hx
          exact hys.2 i x _ hx (hget i (by omega))
        · have hi := getElem?_lt hx
          exact (hr i _ (List.getElem?_eq_getElem (by omega))).2)
      obtain ⟨g'', x, b'', f'', S'', hk'', hx'', L'', hbx''⟩ := freeze_sound S' hF (v := .slice (some ⟨bl, 0, none⟩) m cap) (.bsl j m bl cap (by rw [hbx]; exact hb) hcap)
      exact ⟨g'', x, b'', f'', S'', hk'', hx'', L.trans L'', hbx''.trans hbx⟩
    · have h0 : cs = [] := hs.boxrep j _ _ hb h1
      subst h0
      obtain ⟨_, hF⟩ := hk
      have e1 : b.set j (.cells (.row t sz) []) = b := by
        apply List.ext_getElem?
        intro i
        rw [List.getElem?_set]
        split
        · rename_i h; subst h; rw [if_pos (getElem?_lt h1), h1]
        · rfl
      rw [e1] at hF
      exact freeze_sound hs hF hx

theorem finS_sound {e : Env} {a : Act} {w : World} (one : AV → List ABox → Fr → (AV → List ABox → Fr → Prop) → Prop)
    (hone : ∀ {g : G} {b : List ABox} {f : Fr}, Sim mo n w0 F0 [] U g ⟨e, b, f⟩ a w → ∀ {x : AV} {k : AV → List ABox → Fr → Prop}, one x b f k → ∀ {v : Value}, RepT w0.heap.size w g.F g.tok f g.box x v → Ends mo n w0 F0 U g e b f a w v k)
    {g : G} {b : List ABox} {f : Fr} (hs : Sim mo n w0 F0 [] U g ⟨e, b, f⟩ a w) {x : AV} {k : AV → List ABox → Fr → Prop} (h : finS one x b f k) {v : Value}
    (hx : RepT w0.heap.size w g.F g.tok f g.box x v) : Ends mo n w0 F0 U g e b f a w v k := by
  cases x with
  | bsl j m => exact freezeD_sound one hone hs h (hx.plain (by simp))
  | val u => exact finVal_sound hs h hx
  | cond g y => exact Stop.no h
  | agg cs =>
    have hx' := hx.agg_inv
    rcases (h : FinAgg one cs b f k) with hk | hk
    · exact ⟨g, _, b, f, hs, hk, hx', Later.refl _ _ _ _, rfl⟩
    · cases hx' with
      | agg _ vs hl h1 hr =>
        have hb : Both (RepT w0.heap.size w g.F g.tok f g.box) cs vs.toList := ⟨by simpa using hl, fun i x u hx hu => by
          have hu' : vs[i]? = some u := by simpa using hu
          have hi := (Array.getElem?_eq_some_iff.1 hu').1
          have e1 : vs.getD i undef = u := by simp [Array.getD, hi, (Array.getElem?_eq_some_iff.1 hu').2]
          exact .rep _ _ (e1 ▸ hr i x hx)⟩
        obtain ⟨g', ys, b', f', S, hk', hys, L, hbx⟩ := finL_sound one (finL one) (fun _ _ _ h => h) (fun _ _ _ _ _ h => h) hone cs hs hk hb
        refine ⟨g', _, b', f', S, hk', .agg ys vs (by have := hys.1; simpa using this) h1 (fun i c hc => ?_), L, hbx⟩
        have hi : i < vs.size := by have := getElem?_lt hc; have := hys.1; simp at this; omega
        exact hys.2 i c _ hc (by simp [Array.getD, hi])
  | _ => exact ⟨g, _, b, f, hs, h, hx.plain (by simp), Later.refl _ _ _ _, rfl⟩

theorem fin1_sound {g : G} {e : Env} {b : List ABox} {f : Fr} {a : Act} {w : World} (hs : Sim mo n w0 F0 [] U g ⟨e, b, f⟩ a w) {x : AV} {k : AV → List ABox → Fr → Prop} (h : fin1 x b f k) {v : Value}
    (hx : RepT w0.heap.size w g.F g.tok f g.box x v) : Ends mo n w0 F0 U g e b f a w v k :=
  finS_sound _ (fun hs _ _ h _ hx => finS_sound _ (fun hs _ _ h _ hx => finS_sound _ (fun hs _ _ h _ hx => fin0_sound hs h hx) hs h hx) hs h hx) hs h hx

/-- the call begins -/
theorem Sim.start {fn : Func} {args : List AV} {b0 : List ABox} {box0 : List BId} (hn : args.length ≤ fn.ntmps) (w : World) (F : Nat → Nat) (vs : Array Value) (hcond : CondB w box0) (hout : ∀ b, w.heap.size ≤ b → F b = 0) (hbl : box0.length = b0.length)
    (hbi : ∀ (j b c : Nat), box0[j]? = some (.blk b c) → b < w.heap.size ∧ F b = 0) (hbj : ∀ (i j b c c' : Nat), box0[i]? = some (.blk b c) → box0[j]? = some (.blk b c') → i = j)
    (hbr : BoxesOk w.heap.size w F [] [] box0 b0) (hargs : Both (Rep w.heap.size w F [] [] box0) args vs.toList) :
    Sim mo fn.ntmps w F box0 [] ⟨F, [], box0⟩ ⟨argEnv 0 args, b0, []⟩ { tmps := vs ++ Array.replicate (fn.ntmps - vs.size) undef, defers := [] } w := by
  have hvs : vs.size = args.length := by have := hargs.1; simpa using this.symm
  exact {
    defers := rfl
    size := by simp; omega
    env := fun i => by
      rw [look_argEnv, if_pos (Nat.zero_le _), Nat.sub_zero]
      cases hi : args[i]? with
      | none => exact .rep _ _ (.any _)
      | some x =>
        have hlt := getElem?_lt hi
        have hv : (vs ++ Array.replicate (fn.ntmps - vs.size) undef).getD i undef = vs[i]'(by omega) := by
          have h1 : i < vs.size := by omega
          have h2 : i < vs.size + (fn.ntmps - vs.size) := by omega
          simp [Array.getD, h1, h2]
        rw [hv]
        exact .rep _ _ (hargs.2 i x _ hi (by rw [Array.getElem?_toList]; simp [hvs, hlt]))
    below := Keep.refl _ _
    old := fun _ _ => rfl
    out := hout
    boxlen := hbl
    boxpre := fun _ _ h => h
    boxin := fun j b c h => ⟨.inr ⟨j, h⟩, (hbi j b c h).1⟩
    boxF := fun j b c h _ => (hbi j b c h).2
    boxrep := hbr
    boxinj := fun i j b c c' hi hj _ _ => hbj i j b c c' hi hj
    cond := hcond
    held := fun p hp => by cases hp
    toklen := rfl
    tokin := by simp
    tokbox := by simp
    tokinj := by simp }

/-- the results' value -/
theorem results_run {fn : Func} {a : Act} {w : World} {us : List Value} (hr : (fn.results.toList.mapM (resRun a)).run P w = .ok us w) :
    (results fn a.tmps).run P w = .ok (if h : us.toArray.size = 1 then us.toArray[0] else .tuple us.toArray) w := by
  have e1 : results fn a.tmps = (do let vs ← fn.results.mapM (resRun a); pure (if h : vs.size = 1 then vs[0] else .tuple vs)) := by
    unfold results
    rfl
  rw [e1, Array.mapM_eq_mapM_toList]
  simp only [Sem.run_bind, Sem.run_map, hr, Result.andThen_ok, Sem.run_pure]

theorem rep_tuple {B : Nat} {w : World} {F : Nat → Nat} {tok : List (Option Nat)} {fr : Fr} {box : List BId} {xs : List AV} {us : List Value} (h : Both (Rep B w F tok fr box) xs us) (h1 : us.length ≠ 1) :
    Rep B w F tok fr box (.tup xs) (if h : us.toArray.size = 1 then us.toArray[0] else .tuple us.toArray) := by
  rw [dif_neg (by simpa using h1)]
  refine .tup _ _ (by simpa using h.1) (fun i c hc => ?_)
  have hi := getElem?_lt hc
  have hl := h.1
  have hi' : i < us.length := by omega
  have e1 : us.toArray.getD i undef = us[i] := by simp [Array.getD, hi']
  rw [e1]
  exact h.2 i c _ hc (List.getElem?_eq_getElem hi')

theorem many {rs : List ResultVar} {a : Act} {w : World} {us : List Value} (hr : (rs.mapM (resRun a)).run P w = .ok us w) (hne : ∀ r, rs.map (cRes P) = [r] → False) : us.length ≠ 1 := fun h2 => by
  have h3 := mapM_len hr
  match hfr : rs, h3 with
  | [rv], _ => exact hne (cRes P rv) rfl
  | [], h3 => rw [h2] at h3; cases h3
  | _ :: _ :: _, h3 => rw [h2] at h3; simp at h3

theorem one {rs : List ResultVar} {r : RRes} (hrs : rs.map (cRes P) = [r]) : ∃ rv, rs = [rv] ∧ cRes P rv = r := by
  match rs, hrs with
  | [rv], hrs => exact ⟨rv, rfl, by simpa using hrs⟩

/-- From a function's code to its calls. -/
theorem calls_of_code {fid : Nat} {fn : Func} {c : Code} {args : List AV} {Φ : AV → List ABox → Fr → Prop} (hf : P.funcs[fid]? = some fn) (hb : fn.body = some c) (hn : args.length ≤ fn.ntmps) (K : List Nat)
    (h : aCode (ACon mo P) K 0 (cCode P fn.ntmps c) (doneG (fn.results.toList.map (cRes P)) Φ) ⟨argEnv 0 args, [], []⟩)
    (w : World) (F : Nat → Nat) (vs : Array Value) (hcond : CondB w []) (hout : ∀ b, w.heap.size ≤ b → F b = 0) (hargs : Both (Rep w.heap.size w F [] [] []) args vs.toList) :
    Calls P fid vs w fun e w' => ∃ (v : Value) (F' : Nat → Nat) (tok : List (Option Nat)) (box : List BId) (r : AV) (b : List ABox) (frs : Fr), Φ r b frs ∧ e = .returned v ∧ Bel mo w.heap.size w w' ∧ (∀ b, b < w.heap.size → F' b = F b) ∧
      (∀ b, w'.heap.size ≤ b → F' b = 0) ∧ tok.length = frs.length ∧ (∀ (k b : Nat), tok[k]? = some (some b) → w.heap.size ≤ b ∧ b < w'.heap.size) ∧
      (∀ (k l b : Nat), tok[k]? = some (some b) → tok[l]? = some (some b) → k = l) ∧ Rep w.heap.size w' F' tok frs box r v := by
  refine calls_of_wp hf hb ?_
  have S := Sim.start (mo := mo) (fn := fn) (b0 := []) (box0 := []) hn w F vs hcond hout rfl (by simp) (by simp) (fun j d x h => by simp at h) hargs
  refine wp_mono (aCode_sound (n := fn.ntmps) (w0 := w) (F0 := F) (box0 := []) (U := []) (Nat.le_refl _) (fun p hp => by cases hp) K c _ _ h _ _ _ S) ?_
  rintro e a' w' ⟨g', s', S', hq⟩
  obtain ⟨se, sb, sf⟩ := s'
  have out : ∀ (us : List Value), (fn.results.toList.mapM (resRun a')).run P w' = .ok us w' → Ends mo fn.ntmps w F [] g' se sb sf a' w' (if h : us.toArray.size = 1 then us.toArray[0] else .tuple us.toArray) Φ →
      a'.defers = [] ∧ ∃ v, (results fn a'.tmps).run P w' = .ok v w' ∧ ∃ (v' : Value) (F' : Nat → Nat) (tok : List (Option Nat)) (box : List BId) (r : AV) (b : List ABox) (frs : Fr), Φ r b frs ∧ Ending.returned v = .returned v' ∧ Bel mo w.heap.size w w' ∧ (∀ b, b < w.heap.size → F' b = F b) ∧
        (∀ b, w'.heap.size ≤ b → F' b = 0) ∧ tok.length = frs.length ∧ (∀ (k b : Nat), tok[k]? = some (some b) → w.heap.size ≤ b ∧ b < w'.heap.size) ∧
        (∀ (k l b : Nat), tok[k]? = some (some b) → tok[l]? = some (some b) → k = l) ∧ Rep w.heap.size w' F' tok frs box r v' := by
    rintro us hr ⟨g2, x, b2, f2, S2, hx, hrep, _, _⟩
    exact ⟨S'.defers, _, results_run hr, _, g2.F, g2.tok, g2.box, x, b2, f2, hx, rfl, S2.below.below, S2.old, S2.out, S2.toklen, S2.tokin, S2.tokinj, hrep⟩
  have fin : outK (fn.results.toList.map (cRes P)) ⟨se, sb, sf⟩ Φ → a'.defers = [] ∧ ∃ v, (results fn a'.tmps).run P w' = .ok v w' ∧ ∃ (v' : Value) (F' : Nat → Nat) (tok : List (Option Nat)) (box : List BId) (r : AV) (b : List ABox) (frs : Fr), Φ r b frs ∧ Ending.returned v = .returned v' ∧ Bel mo w.heap.size w w' ∧ (∀ b, b < w.heap.size → F' b = F b) ∧
        (∀ b, w'.heap.size ≤ b → F' b = 0) ∧ tok.length = frs.length ∧ (∀ (k b : Nat), tok[k]? = some (some b) → w.heap.size ≤ b ∧ b < w'.heap.size) ∧
        (∀ (k l b : Nat), tok[k]? = some (some b) → tok[l]? = some (some b) → k = l) ∧ Rep w.heap.size w' F' tok frs box r v' := fun hq => by
    unfold outK at hq
    split at hq
    · rename_i r hrs
      obtain ⟨rv, hrv, rfl⟩ := one hrs
      obtain ⟨x, v, hk, hx, hr⟩ := res_one (P := P) S' hq
      have hm : (fn.results.toList.mapM (resRun a')).run P w' = .ok [v] w' := by
        rw [hrv]; simp only [List.mapM_cons, List.mapM_nil, Sem.run_bind, Sem.run_pure, hr, Result.andThen_ok]
      exact out [v] hm (fin1_sound S' hk hx)
    · rename_i hne
      obtain ⟨xs, us, hk, hb', hr⟩ := res_all (P := P) S' fn.results.toList hq
      obtain ⟨g2, ys, b2, f2, S2, hk2, hys, L, hbx⟩ := finL_sound fin1 finAll (fun _ _ _ h => h) (fun _ _ _ _ _ h => h) (fun hs _ _ h _ hx => fin1_sound hs h hx) xs S' hk hb'
      exact out us hr ⟨g2, _, b2, f2, S2, hk2, rep_tuple hys (many hr hne), L, hbx⟩
  cases e with
  | normal => exact fin hq
  | ret => exact fin hq
  | _ => exact Stop.no hq

theorem ARet.of_code {fid : Nat} {fn : Func} {c : Code} {args : List AV} {r : AV} {frs : Fr} (hok : okFn P fid = true) (hf : P.funcs[fid]? = some fn) (hb : fn.body = some c) (hn : args.length ≤ fn.ntmps) (K : List Nat)
    (h : aCode (ACon mo P) K 0 (cCode P fn.ntmps c) (doneK (fn.results.toList.map (cRes P)) r frs) ⟨argEnv 0 args, [], []⟩) : ARet mo P fid args r frs := by
  refine ⟨hok, fun w F vs hcond hout hargs => ?_⟩
  refine (calls_of_code (Φ := fun x _ f => Final x r f frs) hf hb hn K h w F vs hcond hout hargs).mono ?_
  rintro e w' ⟨v, F', tok, box, r', b', frs', ⟨rfl, rfl⟩, h1⟩
  exact ⟨v, F', tok, box, h1⟩

theorem ARet.of_code_scal {fid : Nat} {fn : Func} {c : Code} {args : List AV} {r : AV} (hr : isScalR r = true) (hok : okFn P fid = true) (hf : P.funcs[fid]? = some fn) (hb : fn.body = some c) (hn : args.length ≤ fn.ntmps) (K : List Nat)
    (h : aCode (ACon mo P) K 0 (cCode P fn.ntmps c) (doneS (fn.results.toList.map (cRes P)) r) ⟨argEnv 0 args, [], []⟩) : ARet mo P fid args r [] := by
  refine ⟨hok, fun w F vs hcond hout hargs => ?_⟩
  refine (calls_of_code (Φ := fun x _ _ => Final x r [] []) hf hb hn K h w F vs hcond hout hargs).mono ?_
  rintro e w' ⟨v, F', tok, box, r', b', frs', ⟨rfl, _⟩, rfl, h1, h2, h3, _, _, _, h7⟩
  obtain ⟨v0, hv0⟩ := scalR_rep hr
  obtain rfl := hv0.2 v h7
  exact ⟨v, F', [], [], rfl, h1, h2, h3, rfl, by simp, by simp, hv0.1⟩

def okB (m : Nat) : ABox → Prop
  | .cells _ cs => ∀ c ∈ cs, noTk c = true ∧ inB m c
  | _ => True
theorem inBL_all {m : Nat} : ∀ {cs : List AV}, (∀ c ∈ cs, noTk c = true ∧ inB m c) → noTkL cs = true ∧ inB.inBL m cs
  | [], _ => ⟨rfl, trivial⟩
  | c :: cs, h => by
    obtain ⟨h1, h2⟩ := inBL_all (cs := cs) (fun c hc => h c (by simp [hc]))
    exact ⟨by rw [noTkL, (h c (by simp)).1, h1]; rfl, (h c (by simp)).2, h2⟩
mutual
theorem gv_ok : ∀ (x : Tr) (n m : Nat), n + nb x ≤ m → noTk (gv x n) = true ∧ inB m (gv x n)
  | .v _, _, _, _ => ⟨rfl, trivial⟩
  | .s _, _, _, _ => ⟨rfl, trivial⟩
  | .l _ _ xs, n, m, h => ⟨rfl, by rw [nb] at h; show n < m; omega⟩
  | .a fs, n, m, h => inBL_all (gvL_ok fs n m (by simpa [nb] using h))
  | .p fs, n, m, h => inBL_all (gvL_ok fs n m (by simpa [nb] using h))
theorem gvL_ok : ∀ (xs : List Tr) (n m : Nat), n + nbL xs ≤ m → ∀ c ∈ gvL xs n, noTk c = true ∧ inB m c
  | [], _, _, _, c, hc => by simp [gvL] at hc
  | x :: xs, n, m, h, c, hc => by
    rw [nbL] at h
    rw [gvL] at hc
    rcases List.mem_cons.1 hc with rfl | hc
    · exact gv_ok x n m (by omega)
    · exact gvL_ok xs (n + nb x) m (by omega) c hc
end
mutual
theorem gb_ok : ∀ (x : Tr) (n m : Nat), n + nb x ≤ m → ∀ b ∈ gb x n, okB m b
  | .v _, _, _, _, b, hb => by simp [gb] at hb
  | .s _, _, _, _, b, hb => by simp [gb] at hb
  | .l t sz xs, n, m, h, b, hb => by
    rw [nb] at h
    rw [gb] at hb
    rcases List.mem_cons.1 hb with rfl | hb
    · show ∀ c ∈ gvLL xs (n + 1), _
      rw [gvLL_flatten]
      exact gvL_ok _ _ _ (by rw [← nbLL_flatten]; omega)
    · exact gbLL_ok xs (n + 1) m (by omega) b hb
  | .a fs, n, m, h, b, hb => gbL_ok fs n m (by simpa [nb] using h) b (by rw [gb] at hb; exact hb)
  | .p fs, n, m, h, b, hb => gbL_ok fs n m (by simpa [nb] using h) b (by rw [gb] at hb; exact hb)
theorem gbL_ok : ∀ (xs : List Tr) (n m : Nat), n + nbL xs ≤ m → ∀ b ∈ gbL xs n, okB m b
  | [], _, _, _, b, hb => by simp [gbL] at hb
  | x :: xs, n, m, h, b, hb => by
    rw [nbL] at h
    rw [gbL] at hb
    rcases List.mem_append.1 hb with hb | hb
    · exact gb_ok x n m (by omega) b hb
    · exact gbL_ok xs (n + nb x) m (by omega) b hb
theorem gbLL_ok : ∀ (xs : List (List Tr)) (n m : Nat), n + nbLL xs ≤ m → ∀ b ∈ gbLL xs n, okB m b
  | [], _, _, _, b, hb => by simp [gbLL] at hb
  | x :: xs, n, m, h, b, hb => by
    rw [nbLL] at h
    rw [gbLL] at hb
    rcases List.mem_append.1 hb with hb | hb
    · exact gbL_ok x n m (by omega) b hb
    · exact gbLL_ok xs (n + nbL x) m (by omega) b hb
end

theorem TRet.of_code {fid : Nat} {fn : Func} {c : Code} {b0 : List ABox} {x' : Tr} {args : List AV} {r : AV} (hr : isScalR r = true) (hok : okFn P fid = true) (hf : P.funcs[fid]? = some fn) (hb : fn.body = some c) (hn : args.length ≤ fn.ntmps) (K : List Nat)
    (hx : nb x' = b0.length) (h : aCode (ACon mo P) K b0.length (cCode P fn.ntmps c) (doneT (fn.results.toList.map (cRes P)) b0.length r (gb x' 0)) ⟨argEnv 0 args, b0, []⟩) : TRet mo P fid b0 args r (gb x' 0) := by
  refine ⟨hok, fun w F vs box0 hcond hout hbl hbi hbj hbr hargs => ?_⟩
  refine calls_of_wp hf hb ?_
  have S := Sim.start (mo := mo) (fn := fn) hn w F vs hcond hout hbl hbi hbj hbr hargs
  rw [← hbl] at h
  refine wp_mono (aCode_sound (n := fn.ntmps) (w0 := w) (F0 := F) (box0 := box0) (U := []) (Nat.le_refl _) (fun p hp => by cases hp) K c _ _ h _ _ _ S) ?_
  rintro e a' w' ⟨g', s', S', hq⟩
  obtain ⟨v0, hv0⟩ := scalR_rep hr
  have htake : g'.box.take box0.length = box0 := by
    apply List.ext_getElem?
    intro i
    rw [List.getElem?_take]
    by_cases hi : i < box0.length
    · rw [if_pos hi, List.getElem?_eq_getElem hi]; exact S'.boxpre i _ (List.getElem?_eq_getElem hi)
    · rw [if_neg hi, List.getElem?_eq_none (by omega)]
  have done : ∀ {us : List Value} {x : AV}, (fn.results.toList.mapM (resRun a')).run P w' = .ok us w' → RepT w.heap.size w' g'.F g'.tok s'.fr g'.box x (if h : us.toArray.size = 1 then us.toArray[0] else .tuple us.toArray) → FinalT x r (s'.bx.take box0.length) (gb x' 0) →
      a'.defers = [] ∧ ∃ v, (results fn a'.tmps).run P w' = .ok v w' ∧ ∃ (v' : Value) (F' : Nat → Nat), Ending.returned v = .returned v' ∧ Keep mo box0 w w' ∧ (∀ b, b < w.heap.size → F' b = F b) ∧ (∀ b, w'.heap.size ≤ b → F' b = 0) ∧
        BoxesOk w.heap.size w' F' [] [] box0 (gb x' 0) ∧ Rep w.heap.size w' F' [] [] box0 r v' := by
    rintro us x hr' hrep ⟨rfl, hbx⟩
    have hv := hv0.2 _ (hrep.plain (fun g y he => by rw [he] at hr; cases hr))
    refine ⟨S'.defers, _, results_run hr', _, g'.F, rfl, S'.below, S'.old, S'.out, fun j d y hd hy => ?_, by rw [hv]; exact hv0.1⟩
    have hj : j < box0.length := getElem?_lt hd
    have hy' : s'.bx[j]? = some y := by rw [← hbx, List.getElem?_take, if_pos hj] at hy; exact hy
    have hok' := gb_ok x' 0 box0.length (by omega) y (List.mem_of_getElem? hy)
    have h0 := S'.boxrep j d y (S'.boxpre j d hd) hy'
    cases d with
    | blk b c =>
      cases y with
      | cells k cs =>
        obtain ⟨c', t, h1, h2, h3, h4⟩ := h0
        refine ⟨c', t, h1, h2, fun i z hz => ⟨?_, (h3 i z hz).2⟩, h4⟩
        obtain ⟨o1, o2⟩ := hok' z (List.mem_of_getElem? hz)
        have := ((h3 i z hz).1.take o2).noTk (B' := w.heap.size) o1
        rw [htake] at this; exact this
      | iter s p => exact h0
      | map m => exact h0
      | vmap kk vk m => exact h0
      | dead => exact trivial
    | nil =>
      cases y with
      | cells k cs => exact h0
      | iter s p => exact h0
      | map m => exact h0
      | vmap kk vk m => exact h0
      | dead => exact trivial
  have fin : (match fn.results.toList.map (cRes P) with | [x] => resOne s' x fun x => FinalT x r (s'.bx.take box0.length) (gb x' 0) | rs => resAll s' rs fun xs => FinalT (.tup xs) r (s'.bx.take box0.length) (gb x' 0)) →
      a'.defers = [] ∧ ∃ v, (results fn a'.tmps).run P w' = .ok v w' ∧ ∃ (v' : Value) (F' : Nat → Nat), Ending.returned v = .returned v' ∧ Keep mo box0 w w' ∧ (∀ b, b < w.heap.size → F' b = F b) ∧ (∀ b, w'.heap.size ≤ b → F' b = 0) ∧
        BoxesOk w.heap.size w' F' [] [] box0 (gb x' 0) ∧ Rep w.heap.size w' F' [] [] box0 r v' := fun hq => by
    split at hq
    · rename_i r hrs
      obtain ⟨rv, hrv, rfl⟩ := one hrs
      obtain ⟨x, v, hk, hx, hr⟩ := res_one (P := P) S' hq
      have hm : (fn.results.toList.mapM (resRun a')).run P w' = .ok [v] w' := by
        rw [hrv]; simp only [List.mapM_cons, List.mapM_nil, Sem.run_bind, Sem.run_pure, hr, Result.andThen_ok]
      exact done hm hx hk
    · rename_i hne
      obtain ⟨xs, us, hk, hb', hr'⟩ := res_all (P := P) S' fn.results.toList hq
      have hxs : ∀ c ∈ xs, isScal c = true := by
        obtain ⟨h1, _⟩ := hk
        have hr2 : isScalR (.tup xs) = true := by rw [h1]; exact hr
        intro c hc
        exact List.all_eq_true.1 hr2 c hc
      have hb2 : Both (Rep w.heap.size w' g'.F g'.tok s'.fr g'.box) xs us := ⟨hb'.1, fun i x v hx hv => (hb'.2 i x v hx hv).plain (fun g y he => by have := hxs x (List.mem_of_getElem? hx); rw [he] at this; cases this)⟩
      exact done hr' (.rep _ _ (rep_tuple hb2 (many hr' hne))) hk
  cases e with
  | normal => exact fin hq
  | ret => exact fin hq
  | _ => exact Stop.no hq

/-! boxes lent, whatever is handed back -/
inductive FinalC (Φ : AV → List ABox → Fr → Prop) (r : AV) (b : List ABox) (f : Fr) : Prop
  | mk (b1 : List ABox) (h : Lends b b1) (hk : Φ r b1 f) : FinalC Φ r b f
def doneL (rs : List RRes) (Φ : AV → List ABox → Fr → Prop) (e : Exit) (s : St) : Prop :=
  match e with
  | .normal => (match rs with | [x] => resOne s x fun x => Need (noCond [x] = true) (FinalC Φ x s.bx s.fr) | rs => resAll s rs fun xs => Need (noCond xs = true) (FinalC Φ (.tup xs) s.bx s.fr))
  | .ret => (match rs with | [x] => resOne s x fun x => Need (noCond [x] = true) (FinalC Φ x s.bx s.fr) | rs => resAll s rs fun xs => Need (noCond xs = true) (FinalC Φ (.tup xs) s.bx s.fr))
  | _ => Stop
def noDead (b : List ABox) : Bool := b.all fun x => match x with | .dead => false | _ => true
theorem noDead_live {b : List ABox} (h : noDead b = true) (j : Nat) : live b j := fun hd => by
  have := List.all_eq_true.1 h _ (List.mem_of_getElem? hd)
  simp at this
theorem mask_all : ∀ {b : List ABox} {box : List BId}, noDead b = true → box.length = b.length → mask b box = box
  | [], [], _, _ => rfl
  | [], _ :: _, _, h => by simp at h
  | _ :: _, [], _, h => by simp at h
  | x :: b, d :: box, h, hl => by
    simp only [noDead, List.all_cons, Bool.and_eq_true] at h
    have := mask_all (b := b) (box := box) h.2 (by simpa using hl)
    cases x <;> simp_all [mask]
theorem Lends.live {b b0 : List ABox} (h : Lends b b0) {j : Nat} (hj : live b0 j) : live b j := fun hd => by
  have hlt := getElem?_lt hd
  have hlt' : j < b0.length := by have := h.len; omega
  have hx : b0[j]? = some b0[j] := List.getElem?_eq_getElem hlt'
  rcases h.get j _ hx with h' | ⟨h', _⟩
  · exact hj (by rw [hx, h'])
  · rw [hd] at h'; exact hj (by rw [hx]; exact congrArg some (Option.some.inj h').symm)

/-- what is handed back, and the state that is left -/
inductive FinalI (Φ : AV → List ABox → Fr → Prop) (r : AV) (b : List ABox) (f : Fr) : Prop | mk (h : Φ r b f) : FinalI Φ r b f
def doneI (rs : List RRes) (Φ : AV → List ABox → Fr → Prop) (e : Exit) (s : St) : Prop :=
  match e with
  | .normal => (match rs with | [x] => resOne s x fun x => Need (noCond [x] = true) (FinalI Φ x s.bx s.fr) | rs => resAll s rs fun xs => Need (noCond xs = true) (FinalI Φ (.tup xs) s.bx s.fr))
  | .ret => (match rs with | [x] => resOne s x fun x => Need (noCond [x] = true) (FinalI Φ x s.bx s.fr) | rs => resAll s rs fun xs => Need (noCond xs = true) (FinalI Φ (.tup xs) s.bx s.fr))
  | _ => Stop
theorem IRet.of_code {fid : Nat} {fn : Func} {c : Code} {b0 : List ABox} {f0 : Fr} {args : List AV} {Φ : AV → List ABox → Fr → Prop} (hok : okFn P fid = true) (hf : P.funcs[fid]? = some fn) (hb : fn.body = some c) (hn : args.length ≤ fn.ntmps) (K : List Nat)
    (h : aCode (ACon mo P) K b0.length (cCode P fn.ntmps c) (doneI (fn.results.toList.map (cRes P)) Φ) ⟨argEnv 0 args, b0, f0⟩) : IRet mo P fid b0 f0 args Φ := by
  refine ⟨hok, fun w0 F0 box0 U g w vs S0 hU hargs => ?_⟩
  refine calls_of_wp hf hb ?_
  have hvs : vs.size = args.length := by have := hargs.1; simpa using this.symm
  have hbl := S0.boxlen
  simp only at hbl
  have hb0 : box0.length ≤ b0.length := by
    rw [← hbl]
    rcases Nat.lt_or_ge g.box.length box0.length with h1 | h1
    · have := getElem?_lt (S0.boxpre g.box.length _ (List.getElem?_eq_getElem h1)); omega
    · exact h1
  have S : Sim mo fn.ntmps w0 F0 box0 U g ⟨argEnv 0 args, b0, f0⟩ { tmps := vs ++ Array.replicate (fn.ntmps - vs.size) undef, defers := [] } w := { S0 with
    defers := rfl
    size := by simp; omega
    env := fun i => by
      rw [look_argEnv, if_pos (Nat.zero_le _), Nat.sub_zero]
      cases hi : args[i]? with
      | none => exact .rep _ _ (.any _)
      | some x =>
        have hlt := getElem?_lt hi
        have hv : (vs ++ Array.replicate (fn.ntmps - vs.size) undef).getD i undef = vs[i]'(by omega) := by
          have h1 : i < vs.size := by omega
          have h2 : i < vs.size + (fn.ntmps - vs.size) := by omega
          simp [Array.getD, h1, h2]
        rw [hv]
        exact .rep _ _ (hargs.2 i x _ hi (by rw [Array.getElem?_toList]; simp [hvs, hlt])) }
  refine wp_mono (aCode_sound (n := fn.ntmps) (w0 := w0) (F0 := F0) (box0 := box0) (U := U) hb0 hU K c _ _ h _ _ _ S) ?_
  rintro e a' w' ⟨g', s', S', hq⟩
  have done : ∀ {us : List Value} {x : AV}, (fn.results.toList.mapM (resRun a')).run P w' = .ok us w' → Rep w0.heap.size w' g'.F g'.tok s'.fr g'.box x (if h : us.toArray.size = 1 then us.toArray[0] else .tuple us.toArray) → FinalI Φ x s'.bx s'.fr →
      a'.defers = [] ∧ ∃ v, (results fn a'.tmps).run P w' = .ok v w' ∧ ∃ (v' : Value) (g1 : G) (r : AV) (b1 : List ABox) (f1 : Fr), Φ r b1 f1 ∧ Ending.returned v = .returned v' ∧ Sim mo 0 w0 F0 box0 U g1 ⟨[], b1, f1⟩ { tmps := #[], defers := [] } w' ∧
        Rep w0.heap.size w' g1.F g1.tok f1 g1.box r v' := by
    rintro us x hr' hrep ⟨hk⟩
    exact ⟨S'.defers, _, results_run hr', _, g', x, s'.bx, s'.fr, hk, rfl, { S' with defers := rfl, size := rfl, env := fun i => .rep _ _ (.any _) }, hrep⟩
  have fin : ∀ G : Prop, (∀ {us : List Value} {x : AV}, (fn.results.toList.mapM (resRun a')).run P w' = .ok us w' → Rep w0.heap.size w' g'.F g'.tok s'.fr g'.box x (if h : us.toArray.size = 1 then us.toArray[0] else .tuple us.toArray) → FinalI Φ x s'.bx s'.fr → G) →
      (match fn.results.toList.map (cRes P) with | [x] => resOne s' x fun x => Need (noCond [x] = true) (FinalI Φ x s'.bx s'.fr) | rs => resAll s' rs fun xs => Need (noCond xs = true) (FinalI Φ (.tup xs) s'.bx s'.fr)) → G := fun G done hq => by
    have plain : ∀ {x : AV} {xs : List AV} {v : Value}, noCond xs = true → x ∈ xs → RepT w0.heap.size w' g'.F g'.tok s'.fr g'.box x v → Rep w0.heap.size w' g'.F g'.tok s'.fr g'.box x v := fun {x xs v} hn hx hr => hr.plain (fun g y he => by
      have := List.all_eq_true.1 hn x hx
      rw [he] at this; cases this)
    split at hq
    · rename_i r hrs
      obtain ⟨rv, hrv, rfl⟩ := one hrs
      obtain ⟨x, v, ⟨hn, hk⟩, hx, hr⟩ := res_one (P := P) S' hq
      have hm : (fn.results.toList.mapM (resRun a')).run P w' = .ok [v] w' := by
        rw [hrv]; simp only [List.mapM_cons, List.mapM_nil, Sem.run_bind, Sem.run_pure, hr, Result.andThen_ok]
      exact done hm (plain hn (by simp) hx) hk
    · rename_i hne
      obtain ⟨xs, us, ⟨hn, hk⟩, hb', hr'⟩ := res_all (P := P) S' fn.results.toList hq
      have hb2 : Both (Rep w0.heap.size w' g'.F g'.tok s'.fr g'.box) xs us := ⟨hb'.1, fun i x v hx hv => plain hn (List.mem_of_getElem? hx) (hb'.2 i x v hx hv)⟩
      exact done hr' (rep_tuple hb2 (many hr' hne)) hk
  cases e with
  | normal => exact fin _ (fun h1 h2 h3 => done h1 h2 h3) hq
  | ret => exact fin _ (fun h1 h2 h3 => done h1 h2 h3) hq
  | _ => exact Stop.no hq

theorem LRet.of_code {fid : Nat} {fn : Func} {c : Code} {b0 : List ABox} {args : List AV} {Φ : AV → List ABox → Fr → Prop} (hd : noDead b0 = true) (hok : okFn P fid = true) (hf : P.funcs[fid]? = some fn) (hb : fn.body = some c) (hn : args.length ≤ fn.ntmps) (K : List Nat)
    (h : aCode (ACon mo P) K b0.length (cCode P fn.ntmps c) (doneL (fn.results.toList.map (cRes P)) Φ) ⟨argEnv 0 args, b0, []⟩) : LRet mo P fid b0 args Φ := by
  refine ⟨hok, fun w F vs box0 hcond hout hbl hbi hbj hbr hargs => ?_⟩
  refine calls_of_wp hf hb ?_
  have hlv := noDead_live hd
  have S := Sim.start (mo := mo) (fn := fn) hn w F vs hcond hout hbl (fun j b c h => ⟨(hbi j b c h).1, (hbi j b c h).2 (hlv j)⟩) (fun i j b c c' hi hj => hbj i j b c c' hi hj (hlv i) (hlv j)) hbr hargs
  rw [← hbl] at h
  refine wp_mono (aCode_sound (n := fn.ntmps) (w0 := w) (F0 := F) (box0 := box0) (U := []) (Nat.le_refl _) (fun p hp => by cases hp) K c _ _ h _ _ _ S) ?_
  rintro e a' w' ⟨g', s', S', hq⟩
  have done : ∀ {us : List Value} {x : AV}, (fn.results.toList.mapM (resRun a')).run P w' = .ok us w' → Rep w.heap.size w' g'.F g'.tok s'.fr g'.box x (if h : us.toArray.size = 1 then us.toArray[0] else .tuple us.toArray) → FinalC Φ x s'.bx s'.fr →
      a'.defers = [] ∧ ∃ v, (results fn a'.tmps).run P w' = .ok v w' ∧ ∃ (v' : Value) (F' : Nat → Nat) (box1 : List BId) (tok : List (Option Nat)) (frs : Fr) (r : AV) (b1 : List ABox), Φ r b1 frs ∧ Ending.returned v = .returned v' ∧ Keep mo (mask b0 box0) w w' ∧ (∀ b, b < w.heap.size → F' b = F b) ∧ (∀ b, w'.heap.size ≤ b → F' b = 0) ∧
      (∀ (j : Nat) d, box0[j]? = some d → box1[j]? = some d) ∧ box1.length = b1.length ∧
      (∀ (j b c : Nat), box0.length ≤ j → box1[j]? = some (.blk b c) → (w.heap.size ≤ b ∨ ∃ i : Nat, live b0 i ∧ box0[i]? = some (.blk b c)) ∧ b < w'.heap.size) ∧
      (∀ (j b c : Nat), box1[j]? = some (.blk b c) → live b1 j → (box0.length ≤ j ∨ live b0 j) → F' b = 0) ∧
      (∀ (i j b c c' : Nat), box1[i]? = some (.blk b c) → box1[j]? = some (.blk b c') → live b1 i → live b1 j → (box0.length ≤ i ∨ live b0 i) → (box0.length ≤ j ∨ live b0 j) → i = j) ∧
      (∀ (j : Nat) d x, box1[j]? = some d → b1[j]? = some x → (box0.length ≤ j ∨ live b0 j) → BoxOk w.heap.size w' F' [] [] box1 d x) ∧
      tok.length = frs.length ∧ (∀ (k b : Nat), tok[k]? = some (some b) → w.heap.size ≤ b ∧ b < w'.heap.size) ∧ (∀ (k l b : Nat), tok[k]? = some (some b) → tok[l]? = some (some b) → k = l) ∧
      (∀ (k b j c : Nat), tok[k]? = some (some b) → box1[j]? = some (.blk b c) → ¬ live b1 j) ∧ Rep w.heap.size w' F' tok frs box1 r v' := by
    rintro us x hr' hrep ⟨b1, hL, hk⟩
    have hbl' := S'.boxlen
    refine ⟨S'.defers, _, results_run hr', _, g'.F, g'.box, g'.tok, s'.fr, x, b1, hk, rfl, by rw [mask_all hd hbl]; exact S'.below, S'.old, S'.out, S'.boxpre, by rw [hbl', hL.len], fun j b c _ hj => ⟨(S'.boxin j b c hj).1.imp id (fun ⟨i, hi⟩ => ⟨i, hlv i, hi⟩), (S'.boxin j b c hj).2⟩,
      fun j b c hj hl _ => S'.boxF j b c hj (hL.live hl), fun i j b c c' hi hj li lj _ _ => S'.boxinj i j b c c' hi hj (hL.live li) (hL.live lj), fun j d y hd hy _ => ?_, S'.toklen, S'.tokin, S'.tokinj, fun k b j c hk hj hl => S'.tokbox k b j c hk hj (hL.live hl), hrep⟩
    rcases hL.get j y hy with rfl | ⟨hy', ⟨k, cs, rfl, hc⟩ | ⟨m, rfl⟩ | ⟨kk, vk, m, rfl⟩⟩
    · cases d <;> exact trivial
    · exact (S'.boxrep j d _ hd hy').noTk hc
    · have h0 := S'.boxrep j d _ hd hy'
      cases d with
      | blk b c => exact h0
      | nil => exact h0
    · have h0 := S'.boxrep j d _ hd hy'
      cases d with
      | blk b c => exact h0
      | nil => exact h0
  have fin : ∀ G : Prop, (∀ {us : List Value} {x : AV}, (fn.results.toList.mapM (resRun a')).run P w' = .ok us w' → Rep w.heap.size w' g'.F g'.tok s'.fr g'.box x (if h : us.toArray.size = 1 then us.toArray[0] else .tuple us.toArray) → FinalC Φ x s'.bx s'.fr → G) →
      (match fn.results.toList.map (cRes P) with | [x] => resOne s' x fun x => Need (noCond [x] = true) (FinalC Φ x s'.bx s'.fr) | rs => resAll s' rs fun xs => Need (noCond xs = true) (FinalC Φ (.tup xs) s'.bx s'.fr)) → G := fun G done hq => by
    have plain : ∀ {x : AV} {xs : List AV} {v : Value}, noCond xs = true → x ∈ xs → RepT w.heap.size w' g'.F g'.tok s'.fr g'.box x v → Rep w.heap.size w' g'.F g'.tok s'.fr g'.box x v := fun {x xs v} hn hx hr => hr.plain (fun g y he => by
      have := List.all_eq_true.1 hn x hx
      rw [he] at this; cases this)
    split at hq
    · rename_i r hrs
      obtain ⟨rv, hrv, rfl⟩ := one hrs
      obtain ⟨x, v, ⟨hn, hk⟩, hx, hr⟩ := res_one (P := P) S' hq
      have hm : (fn.results.toList.mapM (resRun a')).run P w' = .ok [v] w' := by
        rw [hrv]; simp only [List.mapM_cons, List.mapM_nil, Sem.run_bind, Sem.run_pure, hr, Result.andThen_ok]
      exact done hm (plain hn (by simp) hx) hk
    · rename_i hne
      obtain ⟨xs, us, ⟨hn, hk⟩, hb', hr'⟩ := res_all (P := P) S' fn.results.toList hq
      have hb2 : Both (Rep w.heap.size w' g'.F g'.tok s'.fr g'.box) xs us := ⟨hb'.1, fun i x v hx hv => plain hn (List.mem_of_getElem? hx) (hb'.2 i x v hx hv)⟩
      exact done hr' (rep_tuple hb2 (many hr' hne)) hk
  cases e with
  | normal => exact fin _ (fun h1 h2 h3 => done h1 h2 h3) hq
  | ret => exact fin _ (fun h1 h2 h3 => done h1 h2 h3) hq
  | _ => exact Stop.no hq
end
end Abs
end Go.Proofs.Ytkbblglbbfdnpaa
