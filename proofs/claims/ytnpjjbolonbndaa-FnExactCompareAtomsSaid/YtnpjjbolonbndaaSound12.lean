/-
  Calls; each operation; a region.
-/
import Derived.Test.YtnpjjbolonbndaaSound11
namespace Go.Proofs.Ytnpjjbolonbndaa
namespace Abs
open Go.RowKit

section
variable {P : Program} {n : Nat} {w0 : World} {F0 : Nat → Nat} {g : G} {e : Env} {bx : List ABox} {f : Fr} {a : Act} {w : World} {o : Oper}

theorem run_call {c : Go.Call} {fid : FuncId} {fn : Func} (ho : o.op = .call c) (hc : c.callee = .value (.func fid)) (hf : P.funcs[fid]? = some fn) (hn : (fn.name == "runtime.NumGoroutine" || fn.body.isNone) = false) (w : World) :
    (execOp a.eval o).run P w = .ok (.enter fid (c.args.map a.eval)) w := by
  simp only [Bool.or_eq_false_iff] at hn
  have h1 : ¬ fn.name = "runtime.NumGoroutine" := by simpa using hn.1
  have h2 : ¬ fn.body = none := fun h => by rw [h] at hn; simp at hn
  simp [execOp, ho, resolve, hc, Act.eval, Deferred.ofValue, invoke, callFunc, hf, h1, h2]

theorem both_erase {vs : List AV} {us : List Value} {B : Nat} {tok : List (Option Nat)} {box : List Nat} {F : Nat → Nat} (B' : Nat) (h : Both (RepT B w F tok f box) vs us) : Both (Rep B' w F [] []) (vs.map erase) us :=
  ⟨by simpa using h.1, fun i x v hx hv => by
    rw [List.getElem?_map] at hx
    obtain ⟨y, hy, rfl⟩ := Option.map_eq_some_iff.1 hx
    exact (h.2 i y v hy hv).erase⟩

theorem leads_call (hs : Sim n w0 F0 g ⟨e, bx, f⟩ a w) {c : Go.Call} {fid : FuncId} {fn : Func} {k : AV → List ABox → Fr → Prop} (ho : o.op = .call c) (hc : c.callee = .value (.func fid)) (hf : P.funcs[fid]? = some fn)
    (hn : (fn.name == "runtime.NumGoroutine" || fn.body.isNone) = false)
    (h : evs true e c.args.toList fun vs => ACall (ARet P) fid (vs.map erase) true fun r frs => k (shift f.length r) bx (f ++ frs)) : Leads P n w0 F0 e a o w k := by
  obtain ⟨vs, h1, hvs⟩ := evs_sound hs.env h
  obtain ⟨r, frs, hR, hk⟩ := h1
  intro next Q hnext
  unfold Oper.wp
  rw [run_call ho hc hf hn w, Oper.upon_enter]
  refine (hR rfl w g.F (c.args.map a.eval) hs.out (by simpa using both_erase w.heap.size hvs)).mono ?_
  rintro en w' ⟨v, F', tok, rfl, hb, hold, hout, htl, htin, htinj, hrep⟩
  have hlen := hs.toklen
  simp only at hlen
  have L : Later w g.F g.tok f w' F' (g.tok ++ tok) (f ++ frs) := by
    have L0 := later_below hs hb
    refine ⟨L0.cell, fun b => ?_, fun k t s m hk => ?_⟩
    · rcases Nat.lt_or_ge b w.heap.size with h | h
      · rw [hold b h]; exact Nat.le_refl _
      · rw [hs.out b h]; exact Nat.zero_le _
    · have hlt := getElem?_lt hk
      refine ⟨m, by rw [List.getElem?_append_left hlt]; exact hk, Nat.le_refl _, fun _ => ⟨by rw [List.getElem?_append_left (by omega)], fun b hb' => ?_⟩⟩
      have hbw := (hs.tokin k b hb').2.1
      exact ⟨hb.block b hbw, hold b hbw⟩
  have S : Sim n w0 F0 ⟨F', g.tok ++ tok, g.box⟩ ⟨e, bx, f ++ frs⟩ a w' := {
    defers := hs.defers, size := hs.size
    env := hs.env.later L (fun _ _ h => h)
    below := hs.below.trans (hb.mono hs.below.size)
    old := fun b h => by simp only; rw [hold b (Nat.lt_of_lt_of_le h hs.below.size)]; exact hs.old b h
    out := hout
    boxlen := hs.boxlen
    boxin := fun j b h => by
      have := hs.boxin j b h
      exact ⟨this.1, Nat.lt_of_lt_of_le this.2.1 hb.size, by simp only; rw [hold b this.2.1]; exact this.2.2⟩
    boxrep := fun j b y h hy => (hs.boxrep j b y h hy).later L (hb.block b (hs.boxin j b h).2.1)
    boxinj := hs.boxinj
    toklen := by simp [hlen, htl]
    tokin := fun k b h => by
      rw [List.getElem?_append] at h
      split at h
      · have := hs.tokin k b h; exact ⟨this.1, Nat.lt_of_lt_of_le this.2.1 hb.size, this.2.2⟩
      · have := htin _ b h
        refine ⟨Nat.le_trans hs.below.size this.1, this.2, fun hm => ?_⟩
        obtain ⟨j, hj⟩ := List.getElem?_of_mem hm
        have := (hs.boxin j b hj).2.1; omega
    tokinj := fun i j b hi hj => by
      rw [List.getElem?_append] at hi hj
      split at hi <;> split at hj
      · exact hs.tokinj i j b hi hj
      · have := (hs.tokin i b hi).2.1; have := (htin _ b hj).1; omega
      · have := (hs.tokin j b hj).2.1; have := (htin _ b hi).1; omega
      · have := htinj _ _ b hi hj; omega }
  refine hnext _ _ _ _ _ _ S (.rep _ _ (hrep.mapT _ (fun k l hkl t s m hk => ?_) (fun _ _ _ => hs.below.size))) hk
  cases hkl
  refine ⟨?_, ?_⟩
  · rw [List.getElem?_append_right (by omega), Nat.add_sub_cancel]; exact hk
  · show (g.tok ++ tok)[k + f.length]? = tok[k]?
    rw [List.getElem?_append_right (by omega), hlen, Nat.add_sub_cancel]

theorem list_two {α : Type} {l : Array α} {d : α} (h : l.size = 2) (f0 : α) (h0 : l.toList.getD 0 d = f0) (f1 : α) (h1 : l.toList.getD 1 d = f1) : l = #[f0, f1] := by
  rcases l with ⟨l⟩
  match l, h with
  | [x, y], _ => simp at h0 h1; rw [h0, h1]

/-- Every operation does what the evaluator says. -/
theorem aOp_sound (ops : List Oper) (hs : Sim n w0 F0 g ⟨e, bx, f⟩ a w) {k : AV → List ABox → Fr → Prop} (h : aOp (ARet P) (cOp P ops o) e bx f k) : Leads P n w0 F0 e a o w k := by
  have rest : ∀ {op}, aOp (ARet P) op e bx f k = aVal op true e bx (fun v => k v bx f) → cOp P ops o = op → Leads P n w0 F0 e a o w k := fun {op} he hop =>
    leads_does hs (aVal_sound ops hs.env hs.boxrep hs.boxlen (by rw [← hop] at he; rw [← he]; exact h))
  cases hop : o.op with
  | move x =>
    have hc : cOp P ops o = .mv x := by simp [cOp, hop]
    rw [hc] at h
    exact leads_val (by simp [execOp, hop]) hs (ev_sound hs.env x) h
  | assign x =>
    have hc : cOp P ops o = .mv x := by simp [cOp, hop]
    rw [hc] at h
    exact leads_val (by simp [execOp, hop]) hs (ev_sound hs.env x) h
  | box t x =>
    have hc : cOp P ops o = .box x := by simp [cOp, hop]
    rw [hc] at h
    exact leads_box hs hop h
  | alloc t =>
    unfold cOp at h
    simp only [hop] at h
    split at h
    · rename_i z hz
      split at h
      · rename_i h1; exact leads_alloc hs hop hz h1 h
      · exact h.no
    · exact h.no
  | makeSlice t l c =>
    unfold cOp at h
    simp only [hop] at h
    split at h
    · rename_i hh
      simp only [Bool.and_eq_true] at hh
      exact leads_make hs hop hh.1.1 hh.1.2 hh.2 h
    · exact h.no
  | build t ps =>
    unfold cOp at h
    simp only [hop] at h
    split at h
    · rename_i places z hp
      split at h
      · rename_i hh
        rw [Bool.and_eq_true] at hh
        exact leads_build hs hop hp hh.1 hh.2 h
      · exact h.no
    · exact h.no
  | buildSlice t m ps =>
    unfold cOp at h
    simp only [hop] at h
    split at h
    · rename_i hh
      simp only [Bool.and_eq_true, decide_eq_true_eq, beq_iff_eq] at hh
      exact leads_bslice hs hop hh.1.1 hh.1.2 hh.2 h
    · exact h.no
  | store t p x =>
    unfold cOp at h
    simp only [hop] at h
    split at h
    · rename_i hok; exact leads_store hs hop hok h
    · exact h.no
  | range t x =>
    unfold cOp at h
    simp only [hop] at h
    split at h
    · rename_i ht; exact leads_range hs hop ht h
    · exact h.no
  | next x s =>
    unfold cOp at h
    simp only [hop] at h
    split at h
    · rename_i hh; rw [hh] at hop; exact leads_next hs hop h
    · exact h.no
  | call c =>
    by_cases hb : ∃ fid, c.callee = .value (.func fid)
    · obtain ⟨fid, hc⟩ := hb
      unfold cOp at h
      simp only [hop, hc] at h
      split at h
      · rename_i fn hf
        split at h
        · exact h.no
        · rename_i hn
          simp only [aOp, erases_eq] at h
          exact leads_call hs hop hc hf (Bool.eq_false_iff.2 hn) h
      · exact h.no
    · by_cases ha : c.callee = .builtin .append
      · unfold cOp at h
        simp only [hop, ha] at h
        split at h
        · rename_i hh
          simp only [Bool.and_eq_true, beq_iff_eq] at hh
          refine leads_append (t := c.argTypes.getD 0 0) hs (x := arg c.args.toList 0) (y := arg c.args.toList 1) ?_ hh.1.1 h
          rw [hop]
          congr 1
          rcases c with ⟨cal, args, tys⟩
          simp only at ha hh ⊢
          rw [ha]
          congr 1
          · exact list_two hh.2 _ rfl _ rfl
          · apply Array.ext'; exact hh.1.2
        · exact h.no
      · -- len
        refine rest (op := cOp P ops o) ?_ rfl
        unfold cOp
        simp only [hop]
        split
        · rename_i b hcb
          split
          · split
            · split <;> rfl
            · split <;> rfl
            · rfl
          · exact absurd hcb ha
          · rfl
        · rename_i v hcv
          split
          · rename_i fid; exact absurd ⟨fid, hcv⟩ hb
          · rfl
        · rfl
  | _ =>
    refine rest (op := cOp P ops o) ?_ rfl
    unfold cOp
    simp only [hop]
    repeat' split
    all_goals rfl
end
end Abs
end Go.Proofs.Ytnpjjbolonbndaa
