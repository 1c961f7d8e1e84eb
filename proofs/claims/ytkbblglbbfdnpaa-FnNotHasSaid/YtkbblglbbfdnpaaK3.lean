/-
  append, on abstract values.
  The operations that make or write memory, and calls: one law each.
  Slices that the call makes, appends, calls; each operation of the evaluator.
  Trees in boxes, seen from another numbering of the boxes; trees of a call's own, read.
-/
import Derived.Test.YtkbblglbbfdnpaaK2
import Derived.Lib.OthersKept
import Derived.Laws.MakeOwn
namespace Go.Proofs.Ytkbblglbbfdnpaa
namespace Abs
variable {mo : Bool} {U : List (AV × Value)}
open Go.RowKit

section
variable {P : Program} {n : Nat} {w0 : World} {F0 : Nat → Nat} {box0 : List BId} {g : G} {e : Env} {bx : List ABox} {f : Fr} {a : Act} {w : World}

theorem divmod {i j sz : Nat} (hj : j < sz) : (i * sz + j) / sz = i ∧ (i * sz + j) % sz = j := by
  have hp : 0 < sz := by omega
  constructor
  · rw [Nat.mul_comm, Nat.mul_add_div hp, Nat.div_eq_of_lt hj]; simp
  · rw [Nat.mul_comm, Nat.mul_add_mod, Nat.mod_eq_of_lt hj]

/-- the values of a slice's cells, one behind the other -/
def rowOf (sz m : Nat) (vs : Nat → Nat → Value) : List Value := (List.range (m * sz)).map fun q => vs (q / sz) (q % sz)

theorem rowOf_get {sz m i j : Nat} {vs : Nat → Nat → Value} (hi : i < m) (hj : j < sz) : (rowOf sz m vs)[i * sz + j]? = some (vs i j) := by
  have hlt : i * sz + j < m * sz := by have := idx_lt (off := 0) hi hj (Nat.le_of_eq (Nat.zero_add (m * sz))); omega
  simp [rowOf, hlt, (divmod hj).1, (divmod hj).2]

/-- a token's block is the one it was, or new -/
def TokNew (w : World) (tok tok' : List (Option Nat)) : Prop := ∀ (k b : Nat), tok'[k]? = some (some b) → tok[k]? = some (some b) ∨ w.heap.size ≤ b
theorem TokNew.refl (w : World) (tok : List (Option Nat)) : TokNew w tok tok := fun _ _ h => .inl h
theorem TokNew.app {w : World} {tok ids : List (Option Nat)} (h : ∀ (k b : Nat), ids[k]? = some (some b) → w.heap.size ≤ b) : TokNew w tok (tok ++ ids) := fun k b hk => by
  rw [List.getElem?_append] at hk
  split at hk
  · exact .inl hk
  · exact .inr (h _ _ hk)
theorem append_list (hs : Sim mo n w0 F0 box0 U g ⟨e, bx, f⟩ a w) {T ty el : TypeId} {ti : TypeInfo} {z : Value} (ht : P.underlying T = some (.slice el)) (hi : P.info? el = some ti) (hz : ti.zero = some z) (hzs : z.cells.size = ti.size) (hpos : 0 < ti.size)
    {j : Nat} {xs ys : List (List AV)} {v : Value} (hx : Rep w0.heap.size w g.F g.tok f g.box (.list (some j) xs) v) (hj : f[j]? = some (el, ti.size, xs.length))
    {ay : Option Addr} {capy szy by' offy : Nat} {vsy : Nat → Nat → Value} (hay : ys ≠ [] → ay = some ⟨by', offy, none⟩) (hszy : ∀ e ∈ ys, e.length = szy)
    (hcy : ∀ i e j c, ys[i]? = some e → e[j]? = some c → w.cell? ⟨by', offy + i * szy + j, none⟩ = some (vsy i j) ∧ (vsy i j).oneCell' = true)
    (hry : ∀ i e j c, ys[i]? = some e → e[j]? = some c → Rep w0.heap.size w g.F g.tok f [] c (vsy i j))
    (hsz : ∀ c ∈ ys, c.length = ti.size) (h40 : xs.length + ys.length ≤ 1099511627776) (hbytes : (xs.length + ys.length) * ti.bytes ≤ 140737488355328) :
    ∃ v' w' g', (Builtin.append_ #[T, T] ty #[v, .slice ay ys.length capy]).run P w = .ok v' w' ∧ g'.box = g.box ∧
      Sim mo n w0 F0 box0 U g' ⟨e, bx, f.set j (el, ti.size, xs.length + ys.length)⟩ a w' ∧ Rep w0.heap.size w' g'.F g'.tok (f.set j (el, ti.size, xs.length + ys.length)) g'.box (.list (some j) (xs ++ ys)) v' ∧
      TokNew w g.tok g'.tok ∧ ∀ H, H ≤ w.heap.size → (∀ b, g.tok[j]? = some (some b) → H ≤ b) → Bel mo H w w' := by
  cases hx with
  | list _ _ ad cap sz b off vs hcap ha hszx hF hc hr ho =>
  obtain ⟨t', s', n', hfr, hle, hown⟩ := ho j rfl
  rw [hj] at hfr; cases hfr
  obtain ⟨rfl, ⟨vals, hv⟩, htok, hFb⟩ := hown rfl
  by_cases hy0 : ys = []
  · subst hy0
    have e1 : f.set j (el, ti.size, xs.length + ([] : List (List AV)).length) = f := by
      apply List.ext_getElem?
      intro i
      rw [List.getElem?_set]
      split
      · rename_i h; subst h; rw [if_pos (getElem?_lt hj), hj]; rfl
      · rfl
    refine ⟨_, w, g, append_none w ht hi hcap, rfl, ?_, ?_, TokNew.refl _ _, fun _ _ _ => Bel.refl _ _⟩
    · rw [e1]; exact hs
    · rw [e1, List.append_nil]
      exact .list (some j) xs ad cap ti.size b off vs hcap ha hszx hF hc hr ho
  · obtain rfl := hay hy0
    have hm : 0 < ys.length := List.length_pos_iff.2 hy0
    have hszy' : szy = ti.size := by
      cases ys with
      | nil => exact absurd rfl hy0
      | cons c r => rw [← hszy c (by simp), hsz c (by simp)]
    subst hszy'
    have hgety : ∀ i j, i < ys.length → j < ti.size → ∃ e c, ys[i]? = some e ∧ e[j]? = some c := fun i j hi hj => by
      have h1 : (ys[i]'hi).length = ti.size := hsz _ (List.getElem_mem hi)
      exact ⟨ys[i], ys[i][j]'(by omega), by simp, by simp⟩
    have hnl : (rowOf ti.size ys.length vsy).length = ys.length * ti.size := by simp [rowOf]
    have hnget : ∀ q u, (rowOf ti.size ys.length vsy)[q]? = some u → ∃ i j, i < ys.length ∧ j < ti.size ∧ q = i * ti.size + j ∧ u = vsy i j := fun q u hq => by
      have hlt := getElem?_lt hq
      rw [hnl] at hlt
      have h1 : q % ti.size < ti.size := Nat.mod_lt _ hpos
      have h2 : q / ti.size < ys.length := (Nat.div_lt_iff_lt_mul hpos).2 hlt
      have h3 : q = q / ti.size * ti.size + q % ti.size := by rw [Nat.mul_comm]; exact (Nat.div_add_mod _ _).symm
      refine ⟨q / ti.size, q % ti.size, h2, h1, h3, ?_⟩
      have h4 := rowOf_get (vs := vsy) h2 h1
      rw [← h3, hq] at h4
      exact Option.some.inj h4
    have hnews : ∀ q u, (rowOf ti.size ys.length vsy)[q]? = some u → w.cell? ((⟨by', offy, none⟩ : Addr).add q) = some u := fun q u hq => by
      obtain ⟨i, k, h1, h2, rfl, rfl⟩ := hnget q u hq
      obtain ⟨e', c', he, hc'⟩ := hgety i k h1 h2
      rw [Addr.add_lit, ← Nat.add_assoc]
      exact (hcy i e' k c' he hc').1
    have hone : ∀ u ∈ rowOf ti.size ys.length vsy, u.oneCell' = true := fun u hu => by
      obtain ⟨q, hq⟩ := List.getElem?_of_mem hu
      obtain ⟨i, k, h1, h2, rfl, rfl⟩ := hnget q u hq
      obtain ⟨e', c', he, hc'⟩ := hgety i k h1 h2
      exact (hcy i e' k c' he hc').2
    have hvl := hv.1
    -- what the new slice reads, out of its block
    have build : ∀ (w' : World) (F' : Nat → Nat) (tok' : List (Option Nat)) (b' cap' : Nat) (arr : List Value),
        Later w g.F g.tok f w' F' tok' (f.set j (el, ti.size, xs.length + ys.length)) →
        w'.heap[b']? = some (.cells (vals ++ rowOf ti.size ys.length vsy ++ arr).toArray el (0, 0)) → xs.length + ys.length ≤ cap' → cap' ≤ maxLen → (vals ++ rowOf ti.size ys.length vsy ++ arr).length = cap' * ti.size →
        F' b' = (xs.length + ys.length) * ti.size → tok'[j]? = some (some b') → w0.heap.size ≤ b' →
        Rep w0.heap.size w' F' tok' (f.set j (el, ti.size, xs.length + ys.length)) g.box (.list (some j) (xs ++ ys)) (.slice (some ⟨b', 0, none⟩) (xs.length + ys.length) cap') := by
      intro w' F' tok' b' cap' arr L hh hc1 hc2 hlen hF' ht' hB'
      have hcell : ∀ q, w'.cell? ⟨b', q, none⟩ = (vals ++ rowOf ti.size ys.length vsy ++ arr)[q]? := fun q => by simp [World.cell?, hh]
      have hlenxy : (xs ++ ys).length = xs.length + ys.length := List.length_append
      suffices h : Rep w0.heap.size w' F' tok' (f.set j (el, ti.size, xs.length + ys.length)) g.box (.list (some j) (xs ++ ys)) (.slice (some ⟨b', 0, none⟩) (xs ++ ys).length cap') by
        rw [hlenxy] at h; exact h
      refine .list (some j) (xs ++ ys) _ cap' ti.size b' 0 (fun i k => if i < xs.length then vs i k else vsy (i - xs.length) k) (by omega) (fun _ => rfl) (fun e he => ?_) (fun _ => by rw [hF', hlenxy]; omega) (fun i e' k c hi' hk => ?_) (fun i e' k c hi' hk => ?_) (fun k hk => ?_)
      · rcases List.mem_append.1 he with h | h
        · exact hszx e h
        · exact hsz e h
      · rw [List.getElem?_append] at hi'
        split at hi'
        · rename_i hlt
          obtain ⟨h1, h2⟩ := hc i e' k c hi' hk
          have hkl : k < ti.size := by have := getElem?_lt hk; rw [hszx e' (List.mem_of_getElem? hi')] at this; exact this
          have hq : i * ti.size + k < vals.length := by rw [hvl]; have := idx_lt (off := 0) hlt hkl (Nat.le_of_eq (Nat.zero_add _)); omega
          refine ⟨?_, by simp only [if_pos hlt]; exact h2⟩
          rw [hcell, Nat.zero_add, List.append_assoc, List.getElem?_append_left hq]
          simp only [if_pos hlt]
          have hne : xs ≠ [] := by rintro rfl; simp at hlt
          have hab := ha hne
          subst hab
          rcases hv.2 with ⟨h, _⟩ | ⟨g0, cap0, cur, h, _, hg0, _, _, _, htake⟩
          · cases h
          · cases h
            rw [cell_of_row w b _ cur el (0, 0) hg0] at h1
            have h3 : cur.toList[i * ti.size + k]? = some (vs i k) := by
              have : cur[0 + i * ti.size + k]? = some (vs i k) := h1
              rw [Nat.zero_add] at this; simpa using this
            rw [← htake, List.getElem?_take, if_pos (by rw [hvl] at hq; exact hq)]
            exact h3
        · rename_i hge
          obtain ⟨h1, h2⟩ := hcy _ e' k c hi' hk
          have hkl : k < ti.size := by have := getElem?_lt hk; rw [hsz e' (List.mem_of_getElem? hi')] at this; exact this
          have hil := getElem?_lt hi'
          refine ⟨?_, by simp only [if_neg hge]; exact h2⟩
          have e2 : 0 + i * ti.size + k = vals.length + ((i - xs.length) * ti.size + k) := by
            rw [hvl, Nat.zero_add, ← Nat.add_assoc, ← Nat.add_mul]; congr 2; omega
          have hq : (i - xs.length) * ti.size + k < (rowOf ti.size ys.length vsy).length := by rw [hnl]; have := idx_lt (off := 0) hil hkl (Nat.le_of_eq (Nat.zero_add _)); omega
          rw [hcell, e2, List.append_assoc, List.getElem?_append_right (by omega), Nat.add_sub_cancel_left, List.getElem?_append_left hq, rowOf_get hil hkl]
          simp only [if_neg hge]
      · rw [List.getElem?_append] at hi'
        split at hi'
        · rename_i hlt; simp only [if_pos hlt]; exact (hr i e' k c hi' hk).later L (by simp)
        · rename_i hge; simp only [if_neg hge]; exact (hry _ e' k c hi' hk).later L (by simp)
      · cases hk
        refine ⟨el, ti.size, xs.length + ys.length, by simp [getElem?_lt hj], by rw [hlenxy]; exact Nat.le_refl _, fun _ => ⟨rfl, ⟨vals ++ rowOf ti.size ys.length vsy, ?_, Or.inr ⟨b', cap', _, rfl, hB', hh, by omega, hc2, by simpa using hlen, ?_⟩⟩, ht', fun b'' h => ?_⟩⟩
        · simp only [List.length_append, hvl, hnl, Nat.add_mul]
        · have : (xs ++ ys).length * ti.size = (vals ++ rowOf ti.size ys.length vsy).length := by simp only [List.length_append, hvl, hnl, Nat.add_mul]
          rw [this]; exact List.take_left
        · cases h; rw [hF', hlenxy]
    rcases append_run (P := P) (ty := ty) (c := capy) w ht hi hz hzs hv hnl hnews hone hm h40 hbytes with ⟨gb, cur, rfl, hg, htake, hroom, hcm, hcs, hrun⟩ | ⟨cap', rest, hrun, hc1, hc2, hc3⟩
    · have hfb := hFb gb rfl
      have hsplit : ∀ i, i < xs.length * ti.size → (vals ++ rowOf ti.size ys.length vsy ++ cur.toList.drop (xs.length * ti.size + (rowOf ti.size ys.length vsy).length))[i]? = cur[i]? := fun i hi' => by
        rw [List.append_assoc, List.getElem?_append_left (by rw [hvl]; exact hi'), htake, List.getElem?_take, if_pos hi']; simp
      have hset := setRow_heap w gb cur (vals ++ rowOf ti.size ys.length vsy ++ cur.toList.drop (xs.length * ti.size + (rowOf ti.size ys.length vsy).length)).toArray el (0, 0) hg
      have hgw : gb < w.heap.size := (hs.tokin j gb htok).2
      obtain ⟨L, S⟩ := Sim.appendTok (b := gb) (m' := xs.length + ys.length) (w' := w.setRow gb (vals ++ rowOf ti.size ys.length vsy ++ cur.toList.drop (xs.length * ti.size + (rowOf ti.size ys.length vsy).length)).toArray) hs hj (by omega) (Nat.le_refl _)
        ⟨rfl, rfl, rfl, by simp, fun c _ hcb => setRow_other w gb c _ hcb⟩
        (.inl ⟨htok, hfb, fun i hi' => by rw [cell_of_row w gb i cur el (0, 0) hg, cell_of_row _ gb i _ el (0, 0) hset]; simpa using hsplit i hi'⟩) (by simpa using hgw)
      refine ⟨_, _, _, hrun, ?_, S, ?_, fun k b hk => ?_, fun H hH hT => ⟨⟨rfl, rfl, rfl, by simp, fun k hk => setRow_other w gb k _ (fun e => by have := hT gb htok; omega)⟩, fun _ => Nat.le_refl _⟩⟩
      · rfl
      rotate_left
      · left
        rw [List.getElem?_set] at hk
        split at hk
        · rename_i hjk
          split at hk
          · cases hk; rw [← hjk]; exact htok
          · cases hk
        · exact hk
      refine build _ _ _ gb cap _ L hset hroom hcm ?_ (by simp [setF]) (by rw [List.getElem?_set_self]; have := hs.toklen; simp only at this; have := getElem?_lt hj; omega) (hs.tokin j gb htok).1
      simp only [List.length_append, hvl, hnl, List.length_drop, Array.length_toList, hcs]
      have : (xs.length + ys.length) * ti.size ≤ cap * ti.size := Nat.mul_le_mul_right _ hroom
      rw [Nat.add_mul] at this
      omega
    · have hs' := hs.world (w' := w.drew) (Bel.refl _ _).drew
      have hh : (w.drew.alloc (.cells (vals ++ rowOf ti.size ys.length vsy ++ rest).toArray el)).heap[w.heap.size]? = some (.cells (vals ++ rowOf ti.size ys.length vsy ++ rest).toArray el (0, 0)) := heap_alloc_new w.drew _
      obtain ⟨L, S⟩ := Sim.appendTok (b := w.heap.size) (m' := xs.length + ys.length) (w' := w.drew.alloc (.cells (vals ++ rowOf ti.size ys.length vsy ++ rest).toArray el)) hs hj (by omega) (Nat.le_succ _)
        ⟨rfl, rfl, rfl, by simp, fun c hcw _ => Below.heap_alloc w.drew _ c hcw⟩ (.inr ⟨rfl, by simp⟩) (by simp)
      refine ⟨_, _, _, hrun, ?_, S, ?_, fun k b hk => ?_, fun H hH _ => ((Bel.refl H w).drew).alloc hH _⟩
      · rfl
      rotate_left
      · rw [List.getElem?_set] at hk
        split at hk
        · split at hk
          · cases hk; exact .inr (Nat.le_refl _)
          · cases hk
        · exact .inl hk
      exact build _ _ _ w.heap.size cap' rest L hh hc1 hc2 hc3 (by simp [setF]) (by rw [List.getElem?_set_self]; have := hs.toklen; simp only at this; have := getElem?_lt hj; omega) hs.below.size
end
end Abs
end Go.Proofs.Ytkbblglbbfdnpaa
namespace Go.Proofs.Ytkbblglbbfdnpaa
namespace Abs
variable {mo : Bool} {U : List (AV × Value)}
open Go.RowKit

section lists
theorem fillAt_flatten {α : Type} (sz : Nat) : ∀ (css : List (List α)) (k : Nat) (pre post : List α), (∀ c ∈ css, c.length = sz) → pre.length = k * sz → post.length = css.length * sz →
    fillAt (pre ++ post) ((List.range' k css.length).map (· * sz)) css = pre ++ css.flatten
  | [], k, pre, post, _, _, h => by
    have : post = [] := List.eq_nil_of_length_eq_zero (by simpa using h)
    simp [fillAt, this]
  | c :: css, k, pre, post, hc, hk, hp => by
    have hcl := hc c (by simp)
    have hp' : post.length = sz + css.length * sz := by rw [hp, List.length_cons, Nat.add_mul, Nat.one_mul, Nat.add_comm]
    rw [List.length_cons, List.range'_succ, List.map_cons, fillAt, ← hk, setAt_mid c pre post (by omega), fillAt_flatten sz css (k + 1) (pre ++ c) (post.drop c.length) (fun x hx => hc x (by simp [hx]))
      (by rw [List.length_append, hk, hcl, Nat.add_mul, Nat.one_mul]) (by rw [List.length_drop, hp', hcl]; omega)]
    simp

theorem flatten_get {α : Type} (sz : Nat) : ∀ (css : List (List α)) (i j : Nat) (c : List α) (x : α), (∀ c ∈ css, c.length = sz) → css[i]? = some c → c[j]? = some x → css.flatten[i * sz + j]? = some x
  | [], i, j, c, x, _, h, _ => by simp at h
  | d :: css, 0, j, c, x, hc, h, hj => by
    simp at h; subst h
    rw [Nat.zero_mul, Nat.zero_add, List.flatten_cons, List.getElem?_append_left (getElem?_lt hj)]; exact hj
  | d :: css, i + 1, j, c, x, hc, h, hj => by
    have hd := hc d (by simp)
    rw [List.flatten_cons, List.getElem?_append_right (by rw [hd, Nat.add_mul]; omega), hd, show (i + 1) * sz + j - sz = i * sz + j by rw [Nat.add_mul]; omega]
    exact flatten_get sz css i j c x (fun c hx => hc c (by simp [hx])) (by simpa using h) hj

theorem length_flatten' {α : Type} (sz : Nat) : ∀ (css : List (List α)), (∀ c ∈ css, c.length = sz) → css.flatten.length = css.length * sz
  | [], _ => by simp
  | c :: css, h => by
    rw [List.flatten_cons, List.length_append, length_flatten' sz css (fun x hx => h x (by simp [hx])), h c (by simp), List.length_cons, Nat.add_mul, Nat.one_mul, Nat.add_comm]

theorem setAt_take {α : Type} (m : Nat) : ∀ (xs cs : List α) (o : Nat), (setAt cs o xs).take m = setAt (cs.take m) o xs
  | [], _, _ => rfl
  | x :: xs, cs, o => by rw [setAt, setAt_take m xs, setAt, List.take_set]

theorem both_fillAt {α β : Type} {R : α → β → Prop} : ∀ {os : List Nat} {us : List (List α)} {vs : List (List β)} {xs : List α} {ys : List β}, Both R xs ys → Both (Both R) us vs → Both R (fillAt xs os us) (fillAt ys os vs)
  | [], us, vs, xs, ys, h, _ => by cases us <;> cases vs <;> exact h
  | o :: os, [], [], xs, ys, h, _ => h
  | o :: os, [], _ :: _, _, _, _, h => by simp [Both] at h
  | o :: os, _ :: _, [], _, _, _, h => by simp [Both] at h
  | o :: os, u :: us, v :: vs, xs, ys, h, k => by
    obtain ⟨k1, k2⟩ := Both.cons.1 k
    exact both_fillAt (xs := setAt xs o u) (ys := setAt ys o v) (h.setAt o k1) k2
theorem both_flatten {α β : Type} {R : α → β → Prop} {sz : Nat} : ∀ {us : List (List α)} {vs : List (List β)}, Both (Both R) us vs → (∀ u ∈ us, u.length = sz) → Both R us.flatten vs.flatten
  | [], [], _, _ => ⟨rfl, by simp⟩
  | [], _ :: _, h, _ => by simp [Both] at h
  | _ :: _, [], h, _ => by simp [Both] at h
  | u :: us, v :: vs, h, k => by
    obtain ⟨h1, h2⟩ := Both.cons.1 h
    obtain ⟨h3, h4⟩ := both_flatten h2 (fun u hu => k u (by simp [hu]))
    refine ⟨by simp only [List.flatten_cons, List.length_append, h1.1, h3], fun i x y hx hy => ?_⟩
    rw [List.flatten_cons, List.getElem?_append] at hx hy
    have := h1.1
    split at hx
    · rename_i hi; rw [if_pos (by omega)] at hy; exact h1.2 i x y hx hy
    · rename_i hi; rw [if_neg (by omega)] at hy; exact h4 _ x y hx (by rw [this]; exact hy)
end lists

section
variable {P : Program} {n : Nat} {w0 : World} {F0 : Nat → Nat} {box0 : List BId} {g : G} {e : Env} {bx : List ABox} {f : Fr} {a : Act} {w : World} {o : Oper}

/-- What an operation leads to. -/
def Leads (mo : Bool) (P : Program) (n : Nat) (w0 : World) (F0 : Nat → Nat) (box0 : List BId) (U : List (AV × Value)) (e : Env) (a : Act) (o : Oper) (w : World) (k : AV → List ABox → Fr → Prop) : Prop :=
  ∀ (next : Act → World → Prop) (Q : Exit → Act → World → Prop),
    (∀ g' bx' f' x v w', Sim mo n w0 F0 box0 U g' ⟨e, bx', f'⟩ a w' → RepT w0.heap.size w' g'.F g'.tok f' g'.box x v → k x bx' f' → next (a.put o.dst v) w') → o.wp P a w next Q

theorem leads_val {k : AV → List ABox → Fr → Prop} {g' : G} {bx' : List ABox} {f' : Fr} {x : AV} {v : Value} {w' : World} (hr : (execOp a.eval o).run P w = .ok (.value v) w')
    (hs : Sim mo n w0 F0 box0 U g' ⟨e, bx', f'⟩ a w') (hx : RepT w0.heap.size w' g'.F g'.tok f' g'.box x v) (hk : k x bx' f') : Leads mo P n w0 F0 box0 U e a o w k := fun next Q hn => by
  unfold Oper.wp
  rw [hr]
  exact hn _ _ _ _ _ _ hs hx hk

/-- the same, where the world below is left as it was -/
def LeadsB (mo : Bool) (P : Program) (n : Nat) (w0 : World) (F0 : Nat → Nat) (box0 : List BId) (U : List (AV × Value)) (tok : List (Option Nat)) (e : Env) (a : Act) (o : Oper) (w : World) (k : AV → List ABox → Fr → Prop) : Prop :=
  ∀ (next : Act → World → Prop) (Q : Exit → Act → World → Prop),
    (∀ g' bx' f' x v w', Sim mo n w0 F0 box0 U g' ⟨e, bx', f'⟩ a w' → RepT w0.heap.size w' g'.F g'.tok f' g'.box x v → k x bx' f' → Bel mo w.heap.size w w' → TokNew w tok g'.tok → next (a.put o.dst v) w') → o.wp P a w next Q
theorem leads_valB {k : AV → List ABox → Fr → Prop} {g' : G} {bx' : List ABox} {f' : Fr} {x : AV} {v : Value} {w' : World} (hr : (execOp a.eval o).run P w = .ok (.value v) w')
    (hs : Sim mo n w0 F0 box0 U g' ⟨e, bx', f'⟩ a w') (hx : RepT w0.heap.size w' g'.F g'.tok f' g'.box x v) (hb : Bel mo w.heap.size w w') (hk : k x bx' f') {tok : List (Option Nat)} (ht : TokNew w tok g'.tok := by exact TokNew.refl _ _) : LeadsB mo P n w0 F0 box0 U tok e a o w k := fun next Q hn => by
  unfold Oper.wp
  rw [hr]
  exact hn _ _ _ _ _ _ hs hx hk hb ht
theorem LeadsB.leads {k : AV → List ABox → Fr → Prop} {tok : List (Option Nat)} (h : LeadsB mo P n w0 F0 box0 U tok e a o w k) : Leads mo P n w0 F0 box0 U e a o w k := fun next Q hn => h next Q fun g' bx' f' x v w' S hx hk _ _ => hn g' bx' f' x v w' S hx hk

theorem leads_does (hs : Sim mo n w0 F0 box0 U g ⟨e, bx, f⟩ a w) {k : AV → List ABox → Fr → Prop} (h : Does P w0.heap.size w g.F g.tok f g.box a o fun v => k v bx f) : Leads mo P n w0 F0 box0 U e a o w k := by
  obtain ⟨x, v, hk, hx, hg⟩ := h
  exact leads_val (hg w (Below.refl _ _)) hs hx hk

theorem cell_alloc (w : World) (c : Array Value) (t : TypeId) (q : Nat) : (w.alloc (.cells c t)).cell? ⟨w.heap.size, q, none⟩ = c[q]? := by
  simp

theorem leads_boxB (hs : Sim mo n w0 F0 box0 U g ⟨e, bx, f⟩ a w) {t : TypeId} {x : Operand} {k : AV → List ABox → Fr → Prop} (ho : o.op = .box t x)
    (h : evG true e x fun x => cellsK x fun cs => k (.bptr bx.length 0) (bx ++ [.cells .var cs]) f) : LeadsB mo P n w0 F0 box0 U g.tok e a o w k := by
  obtain ⟨y, h, hy⟩ := evG_sound hs.env h
  obtain ⟨cs, hk, hcs⟩ := cellsK_sound h hy
  have hbl := hs.boxlen
  simp only at hbl
  have hext : ∀ (j : Nat) d, g.box[j]? = some d → (g.box ++ [BId.blk w.heap.size 0])[j]? = some d := fun j d h => by rw [List.getElem?_append_left (getElem?_lt h)]; exact h
  have S := hs.newBox (.cells (a.eval x).cells t) 0 (.cells .var cs) ⟨(a.eval x).cells, t, heap_alloc_new w _, by have := hcs.1; simp at this; omega, fun i z hz => by
    have hi : i < (a.eval x).cells.size := by have := getElem?_lt hz; have := hcs.1; simp at this; omega
    have h1 := hcs.2 i z ((a.eval x).cells.getD i undef) hz (by simp [Array.getD, hi])
    exact ⟨h1.1.later (later_alloc hs _) hext, h1.2⟩, trivial⟩
  refine leads_valB (w' := w.alloc (.cells (a.eval x).cells t)) (v := .pointer (some ⟨w.heap.size, 0, none⟩)) ?_ S (.rep _ _ (.bptr _ _ _ 0 (by simp [← hbl]))) ((Bel.refl _ _).alloc (Nat.le_refl _) _) hk
  simp [execOp, ho, Instr.box, newVar, newRow]

theorem leads_box (hs : Sim mo n w0 F0 box0 U g ⟨e, bx, f⟩ a w) {t : TypeId} {x : Operand} {k : AV → List ABox → Fr → Prop} (ho : o.op = .box t x)
    (h : evG true e x fun x => cellsK x fun cs => k (.bptr bx.length 0) (bx ++ [.cells .var cs]) f) : Leads mo P n w0 F0 box0 U e a o w k := (leads_boxB hs ho h).leads

theorem leads_allocB (hs : Sim mo n w0 F0 box0 U g ⟨e, bx, f⟩ a w) {t : TypeId} {z : Value} {k : AV → List ABox → Fr → Prop} (ho : o.op = .alloc t) (hz : zeroOf P t = some z) (h1 : z.cells.all (·.oneCell') = true)
    (hk : k (.bptr bx.length 0) (bx ++ [.cells .var (z.cells.toList.map constAV)]) f) : LeadsB mo P n w0 F0 box0 U g.tok e a o w k := by
  have hbl := hs.boxlen
  simp only at hbl
  have S := hs.newBox (.cells z.cells t) 0 (.cells .var (z.cells.toList.map constAV)) ⟨z.cells, t, heap_alloc_new w _, by simp, fun i y hy => by
    rw [List.getElem?_map] at hy
    obtain ⟨u, hu, rfl⟩ := Option.map_eq_some_iff.1 hy
    have hu' : z.cells[i]? = some u := by simpa using hu
    have hi := (Array.getElem?_eq_some_iff.1 hu').1
    have e1 : z.cells.getD i undef = u := by simp [Array.getD, hi, (Array.getElem?_eq_some_iff.1 hu').2]
    rw [e1]
    exact ⟨constAV_rep _, (Array.all_eq_true_iff_forall_mem.1 h1) u (Array.mem_of_getElem? hu')⟩, trivial⟩
  unfold zeroOf at hz
  split at hz
  · rename_i i hi
    refine leads_valB (w' := w.alloc (.cells z.cells t)) (v := .pointer (some ⟨w.heap.size, 0, none⟩)) ?_ S (.rep _ _ (.bptr _ _ _ 0 (by simp [← hbl]))) ((Bel.refl _ _).alloc (Nat.le_refl _) _) hk
    simp [execOp, ho, Instr.alloc, zeroValue, typeInfo, hi, hz, newVar, newRow]
  · cases hz

theorem leads_alloc (hs : Sim mo n w0 F0 box0 U g ⟨e, bx, f⟩ a w) {t : TypeId} {z : Value} {k : AV → List ABox → Fr → Prop} (ho : o.op = .alloc t) (hz : zeroOf P t = some z) (h1 : z.cells.all (·.oneCell') = true)
    (hk : k (.bptr bx.length 0) (bx ++ [.cells .var (z.cells.toList.map constAV)]) f) : Leads mo P n w0 F0 box0 U e a o w k := (leads_allocB hs ho hz h1 hk).leads

theorem leads_makeB (hs : Sim mo n w0 F0 box0 U g ⟨e, bx, f⟩ a w) {t : TypeId} {l c : Operand} {k : AV → List ABox → Fr → Prop} (ho : o.op = .makeSlice t l c) (hg : goodElem P t = true)
    (hz1 : zeroOne P (elemTy P t) = true) (hlc : sameTmp l c = true)
    (h : evG true e l fun l => gInt l fun _ m => Need (0 ≤ m ∧ (bytesOf P (elemTy P t) : Int) * m ≤ 281474976710656 ∧ m ≤ 1099511627776)
      (k (.bsl bx.length m.toNat) (bx ++ [.cells (.row (elemTy P t) (P.cellsOf (elemTy P t))) (madeK (zeroCells P (elemTy P t)) (m.toNat * P.cellsOf (elemTy P t)))]) f)) : LeadsB mo P n w0 F0 box0 U g.tok e a o w k := by
  obtain ⟨el, ti, z, hu, hi, hz, hzs, hpos, _, hel, hcz⟩ := goodElem_inv hg
  have hlc' : c = l := by
    unfold sameTmp at hlc
    split at hlc
    · simp at hlc; rw [hlc]
    · cases hlc
  subst hlc'
  obtain ⟨y, h1, hy⟩ := evG_sound hs.env h
  obtain ⟨kd, m, rfl, hn, hk⟩ := gInt_inv h1
  obtain ⟨h0, hb, hm⟩ := hn
  have hzo : zeroOf P (elemTy P t) = some z := by unfold zeroOf; rw [hel, hi]; exact hz
  have hby : bytesOf P (elemTy P t) = ti.bytes := by unfold bytesOf; rw [hel, hi]
  unfold zeroOne at hz1
  unfold zeroCells at hk
  rw [hzo] at hz1 hk
  rw [hel, hcz] at hk
  rw [hby] at hb
  simp only at hz1 hk
  have hr := run_make (P := P) w t el ti z hu hi hz kd kd m m h0 (Int.le_refl _) hb (by omega)
  have hbl := hs.boxlen
  simp only at hbl
  have S := hs.newBox (.cells (madeCells z.cells (m.toNat * ti.size)) el) m.toNat (.cells (.row el ti.size) (madeK z.cells.toList (m.toNat * ti.size))) ⟨_, el, heap_alloc_new w _, by simp [madeK, size_madeCells], fun i x hx => by
    simp only [madeK, List.getElem?_map] at hx
    obtain ⟨q, hq, rfl⟩ := Option.map_eq_some_iff.1 hx
    have hlt : i < m.toNat * ti.size := by have := getElem?_lt hq; simpa using this
    have hqi : q = i := by
      rw [List.getElem?_range hlt] at hq
      exact (Option.some.inj hq).symm
    subst hqi
    have hzpos : 0 < z.cells.size := by omega
    have hmod : q % z.cells.size < z.cells.size := Nat.mod_lt _ hzpos
    have e1 : (madeCells z.cells (m.toNat * ti.size)).getD q undef = z.cells[q % z.cells.size]'hmod := by
      simp [madeCells, Array.getD, hlt, hmod]
    have e2 : z.cells.toList.getD (q % z.cells.toList.length) undef = z.cells[q % z.cells.size]'hmod := by
      simp [List.getD, hmod]
    rw [e1, e2]
    exact ⟨constAV_rep _, (Array.all_eq_true_iff_forall_mem.1 hz1) _ (Array.getElem_mem hmod)⟩, rfl, by simp [size_madeCells], by unfold maxLen; omega⟩
  refine leads_valB (w' := w.alloc (.cells (madeCells z.cells (m.toNat * ti.size)) el)) (v := .slice (some ⟨w.heap.size, 0, none⟩) m.toNat m.toNat) ?_ S (.rep _ _ (.bsl _ _ _ _ (by simp [← hbl]) (Nat.le_refl _))) ((Bel.refl _ _).alloc (Nat.le_refl _) _) hk
  simp only [execOp, ho, hy.val_inv, hr, Sem.run_bind, Result.andThen_ok, Sem.run_pure]

theorem leads_make (hs : Sim mo n w0 F0 box0 U g ⟨e, bx, f⟩ a w) {t : TypeId} {l c : Operand} {k : AV → List ABox → Fr → Prop} (ho : o.op = .makeSlice t l c) (hg : goodElem P t = true)
    (hz1 : zeroOne P (elemTy P t) = true) (hlc : sameTmp l c = true)
    (h : evG true e l fun l => gInt l fun _ m => Need (0 ≤ m ∧ (bytesOf P (elemTy P t) : Int) * m ≤ 281474976710656 ∧ m ≤ 1099511627776)
      (k (.bsl bx.length m.toNat) (bx ++ [.cells (.row (elemTy P t) (P.cellsOf (elemTy P t))) (madeK (zeroCells P (elemTy P t)) (m.toNat * P.cellsOf (elemTy P t)))]) f)) : Leads mo P n w0 F0 box0 U e a o w k := (leads_makeB hs ho hg hz1 hlc h).leads

theorem both_flip_map {ps : List (Nat × Operand)} (a : Act) : (ps.map (·.2)).map a.eval = ps.map fun p => a.eval p.2 := by simp [List.map_map, Function.comp_def]

theorem does_buildA (hs : Sim mo n w0 F0 box0 U g ⟨e, bx, f⟩ a w) {t : TypeId} {ps : Array (Nat × Operand)} {places : List (Nat × Nat)} {z : Value} {k : AV → Prop} (ho : o.op = .build t ps) (hp : structPlaces P t = some (places, z))
    (h1 : z.cells.all (·.oneCell') = true) (h2 : ps.toList.all (fun p => match places[p.1]? with | some q => decide (q.1 + q.2 ≤ z.cells.size) | none => false) = true)
    (h : evs true e (ps.toList.map (·.2)) fun vs => cellsKs vs fun cs => Need (cs.map List.length = (ps.toList.map fun p => places.getD p.1 (0, 0)).map (·.2))
      (k (.agg (fillAt (z.cells.toList.map constAV) ((ps.toList.map fun p => places.getD p.1 (0, 0)).map (·.1)) cs)))) : ∃ x v, k x ∧ RepT w0.heap.size w g.F g.tok f g.box x v ∧ ∀ w', (execOp a.eval o).run P w' = .ok (.value v) w' := by
  obtain ⟨vs, h, hvs⟩ := evs_sound hs.env h
  obtain ⟨cs, h, hcs⟩ := cellsKs_sound h hvs
  obtain ⟨hlen, hk⟩ := h
  have hplace : ∀ p ∈ ps.toList, ∃ q, places[p.1]? = some q ∧ places.getD p.1 (0, 0) = q ∧ q.1 + q.2 ≤ z.cells.size := fun p hp => by
    have := List.all_eq_true.1 h2 p hp
    split at this
    · rename_i q hq; exact ⟨q, hq, by simp [List.getD, hq], by simpa using this⟩
    · cases this
  obtain ⟨cells', hf, hc'⟩ := fill_run (places.toArray[·]?) (ps.toList.map fun p => (p.1, a.eval p.2)) z.cells (ps.toList.map fun p => places.getD p.1 (0, 0))
    (by
      rw [List.map_map, List.map_map]
      refine List.map_congr_left fun p hp => ?_
      obtain ⟨q, hq, hq', _⟩ := hplace p hp
      simp [hq, List.getD])
    (by
      rw [← hlen]
      have e1 : cs.map List.length = (((ps.toList.map (·.2)).map a.eval).map fun v => v.cells.toList).map List.length := by
        apply List.ext_getElem?
        intro i
        rw [List.getElem?_map, List.getElem?_map]
        rcases Nat.lt_or_ge i cs.length with hi | hi
        · have hi' : i < (((ps.toList.map (·.2)).map a.eval).map fun v => v.cells.toList).length := by rw [← hcs.1]; exact hi
          have := (hcs.2 i _ _ (List.getElem?_eq_getElem hi) (List.getElem?_eq_getElem hi')).1
          rw [List.getElem?_eq_getElem hi, List.getElem?_eq_getElem hi']
          simp only [Option.map_some, this]
        · rw [List.getElem?_eq_none hi, List.getElem?_eq_none (by rw [← hcs.1]; exact hi)]
          rfl
      rw [e1]
      simp [List.map_map, Function.comp_def])
    (fun q hq => by
      obtain ⟨p, hp, rfl⟩ := List.mem_map.1 hq
      obtain ⟨q, _, hq', hle⟩ := hplace p hp
      rw [hq']; exact hle)
  have hB : Both (CellR w0.heap.size w g.F g.tok f g.box) (fillAt (z.cells.toList.map constAV) ((ps.toList.map fun p => places.getD p.1 (0, 0)).map (·.1)) cs) cells'.toList := by
    rw [hc']
    refine both_fillAt (both_map_val fun v hv => (Array.all_eq_true_iff_forall_mem.1 h1) v (by simpa using hv)) ?_
    have : ((ps.toList.map fun p => (p.1, a.eval p.2)).map fun p => p.2.cells.toList) = ((ps.toList.map (·.2)).map a.eval).map fun v => v.cells.toList := by simp [List.map_map, Function.comp_def]
    rw [this]; exact hcs
  have hget : ∀ i, i < cells'.size → cells'.toList[i]? = some (cells'.getD i undef) := fun i hi => by simp [Array.getD, hi]
  have hrun : ∀ w', (execOp a.eval o).run P w' = .ok (.value (.agg cells')) w' := fun w' => by
    have hb : P.built t (ps.map fun (i, x) => (i, a.eval x)).toList = some cells' := by
      unfold structPlaces at hp
      split at hp
      · rename_i it fields hit hu
        split at hp
        · rename_i z' places' hz' hm
          simp only [Option.some.injEq, Prod.mk.injEq] at hp
          obtain ⟨rfl, rfl⟩ := hp
          simp only [Program.built, hit, hu, hz', hm]
          simpa using hf
        · cases hp
      · cases hp
    simp only [execOp, ho, Sem.run_bind, run_build w' t _ cells' hb, Result.andThen_ok, Sem.run_pure]
  refine ⟨_, _, hk, .rep _ _ (.agg _ _ (by simpa using hB.1) (fun i hi => ?_) (fun i c hc => ?_)), hrun⟩
  · obtain ⟨x, hx⟩ : ∃ x, (fillAt (z.cells.toList.map constAV) ((ps.toList.map fun p => places.getD p.1 (0, 0)).map (·.1)) cs)[i]? = some x := by
      have hl := hB.1; simp only [Array.length_toList] at hl
      exact ⟨_, List.getElem?_eq_getElem (by omega)⟩
    exact (hB.2 i x _ hx (hget i hi)).2
  · have hl := hB.1; simp only [Array.length_toList] at hl
    have := getElem?_lt hc
    exact (hB.2 i c _ hc (hget i (by omega))).1

theorem does_build (hs : Sim mo n w0 F0 box0 U g ⟨e, bx, f⟩ a w) {t : TypeId} {ps : Array (Nat × Operand)} {places : List (Nat × Nat)} {z : Value} {k : AV → Prop} (ho : o.op = .build t ps) (hp : structPlaces P t = some (places, z))
    (h1 : z.cells.all (·.oneCell') = true) (h2 : ps.toList.all (fun p => match places[p.1]? with | some q => decide (q.1 + q.2 ≤ z.cells.size) | none => false) = true)
    (h : evs true e (ps.toList.map (·.2)) fun vs => cellsKs vs fun cs => Need (cs.map List.length = (ps.toList.map fun p => places.getD p.1 (0, 0)).map (·.2))
      (k (.agg (fillAt (z.cells.toList.map constAV) ((ps.toList.map fun p => places.getD p.1 (0, 0)).map (·.1)) cs)))) : Does P w0.heap.size w g.F g.tok f g.box a o k := by
  obtain ⟨x, v, hk, hx, hr⟩ := does_buildA hs ho hp h1 h2 h
  exact ⟨x, v, hk, hx, fun w' _ => hr w'⟩

theorem leads_build (hs : Sim mo n w0 F0 box0 U g ⟨e, bx, f⟩ a w) {t : TypeId} {ps : Array (Nat × Operand)} {places : List (Nat × Nat)} {z : Value} {k : AV → List ABox → Fr → Prop} (ho : o.op = .build t ps) (hp : structPlaces P t = some (places, z))
    (h1 : z.cells.all (·.oneCell') = true) (h2 : ps.toList.all (fun p => match places[p.1]? with | some q => decide (q.1 + q.2 ≤ z.cells.size) | none => false) = true)
    (h : evs true e (ps.toList.map (·.2)) fun vs => cellsKs vs fun cs => Need (cs.map List.length = (ps.toList.map fun p => places.getD p.1 (0, 0)).map (·.2))
      (k (.agg (fillAt (z.cells.toList.map constAV) ((ps.toList.map fun p => places.getD p.1 (0, 0)).map (·.1)) cs)) bx f)) : Leads mo P n w0 F0 box0 U e a o w k := leads_does hs (does_build hs ho hp h1 h2 h)

theorem leads_store (hs : Sim mo n w0 F0 box0 U g ⟨e, bx, f⟩ a w) {t : TypeId} {p x : Operand} {k : AV → List ABox → Fr → Prop} (ho : o.op = .store t p x) (hok : okTy P t = true)
    (h : evG true e p fun p => evG true e x fun x => cellsK x fun cs => match p with
      | .bptr j off => match bx[j]? with
        | some (.cells rk old) => Need (cs.length = P.cellsOf t ∧ off + P.cellsOf t ≤ old.length) (k (.val (.tuple #[])) (bx.set j (.cells rk (setAt old off cs))) f)
        | _ => Stop
      | _ => Stop) : Leads mo P n w0 F0 box0 U e a o w k := by
  obtain ⟨pv, h1, hpv⟩ := evG_sound hs.env h
  clear h
  obtain ⟨xv, h2, hxv⟩ := evG_sound hs.env h1
  clear h1
  obtain ⟨cs, h, hcs⟩ := cellsK_sound h2 hxv
  clear h2
  simp only [okTy, Bool.and_eq_true, Option.isSome_iff_exists] at hok
  obtain ⟨_, ⟨ti, hi⟩⟩ := hok
  have hsz : P.cellsOf t = ti.size := by simp [Program.cellsOf, hi]
  split at h
  · rename_i j off
    split at h
    · rename_i rk old hold
      obtain ⟨⟨hl, hle⟩, hk⟩ := h
      obtain ⟨b, cap, hb, hpe⟩ := hpv.bptr_inv
      obtain ⟨c, ct, hh, hcsz, hc, hrk⟩ := hs.boxrep j _ _ hb hold
      have hlive : live bx j := fun h => by rw [hold] at h; cases h
      have hvl : (a.eval x).cells.toList.length = P.cellsOf t := by rw [← hcs.1, hl]
      have hst := run_storeCells_at P b off ct (a.eval x).cells.toList 0 c w hh (by rw [hvl]; omega) (fun v hv => by
        obtain ⟨i, hi'⟩ := List.getElem?_of_mem hv
        obtain ⟨y, hy⟩ : ∃ y, cs[i]? = some y := ⟨_, List.getElem?_eq_getElem (by rw [hcs.1]; exact getElem?_lt hi')⟩
        exact (hcs.2 i y v hy hi').2)
      simp only [Nat.add_zero] at hst
      have e1 : c.toList.take off ++ (a.eval x).cells.toList ++ c.toList.drop (off + (a.eval x).cells.toList.length) = setAt c.toList off (a.eval x).cells.toList := by
        have := setAt_mid (a.eval x).cells.toList (c.toList.take off) (c.toList.drop off) (by rw [hvl, List.length_drop, Array.length_toList]; omega)
        rw [List.take_append_drop, List.length_take, Array.length_toList, Nat.min_eq_left (by omega), List.drop_drop] at this
        rw [this]
      rw [e1] at hst
      have hset := setRow_heap w b c (setAt c.toList off (a.eval x).cells.toList).toArray ct (0, 0) hh
      have hbut : But b w (w.setRow b (setAt c.toList off (a.eval x).cells.toList).toArray) := ⟨Nat.le_refl _, rfl, rfl, rfl, by simp, fun k hk => setRow_other w b k _ hk⟩
      have hold2 : Both (CellR w0.heap.size w g.F g.tok f g.box) old (c.toList.take old.length) := ⟨by simp; omega, fun i y v hy hv => by
        rw [List.getElem?_take] at hv
        split at hv
        · have hv' : c[i]? = some v := by simpa using hv
          have hi' := (Array.getElem?_eq_some_iff.1 hv').1
          have e2 : c.getD i undef = v := by simp [Array.getD, hi', (Array.getElem?_eq_some_iff.1 hv').2]
          have := hc i y hy
          rw [e2] at this
          exact this
        · cases hv⟩
      have hnew := hold2.setAt off hcs
      rw [← setAt_take] at hnew
      have S := hs.turnBox hb hlive hbut (x := .cells rk (setAt old off cs)) (by simp) (fun keep => ⟨_, ct, hset, by simp [length_setAt]; omega, fun i y hy => by
        have hio := getElem?_lt hy
        rw [length_setAt] at hio
        have hi' : i < (setAt c.toList off (a.eval x).cells.toList).length := by rw [length_setAt]; simp; omega
        have e2 : (setAt c.toList off (a.eval x).cells.toList).toArray.getD i undef = (setAt c.toList off (a.eval x).cells.toList)[i] := by simp [Array.getD, hi']
        rw [e2]
        have := hnew.2 i y _ hy (by rw [List.getElem?_take, if_pos hio]; exact List.getElem?_eq_getElem hi')
        exact ⟨keep _ _ this.1, this.2⟩, by simpa [length_setAt] using hrk⟩)
      intro next Q hn
      have hrun : (execOp a.eval o).run P w = .ok .skip (w.setRow b (setAt c.toList off (a.eval x).cells.toList).toArray) := by
        have h5 : (a.eval x).cells.size = ti.size := by rw [← hsz, ← hvl]; simp
        simp [execOp, ho, hpe, Instr.storeAt, Instr.sureAddr, storeVar, sizeOf, typeInfo, hi, h5, hst]
      unfold Oper.wp
      rw [hrun]
      exact hn _ _ _ _ _ _ S (.rep _ _ (.val _)) hk
    · exact h.no
  · exact h.no

theorem leads_mmap (hs : Sim mo n w0 F0 box0 U g ⟨e, bx, f⟩ a w) {t : TypeId} {k : AV → List ABox → Fr → Prop} (ho : o.op = .makeMap t none)
    (h : k (.bmap bx.length) (bx ++ [.map []]) f) : Leads mo P n w0 F0 box0 U e a o w k := by
  have hbl := hs.boxlen
  simp only at hbl
  have S := hs.newBox (.map #[] 0) 0 (.map []) ⟨#[], 0, heap_alloc_new w _, MapIs.empty⟩
  refine leads_val (w' := w.alloc (.map #[] 0)) (v := .map (some w.heap.size)) ?_ S (.rep _ _ (.bmap _ _ 0 (by simp [← hbl]))) h
  have : (Instr.makeMap t none).run P w = .ok (.map (some w.heap.size)) (w.alloc (.map #[] 0)) := rfl
  simp only [execOp, ho, Option.map_none, Sem.run_bind, this, Result.andThen_ok, Sem.run_pure]

theorem leads_mput (hs : Sim mo n w0 F0 box0 U g ⟨e, bx, f⟩ a w) {t : TypeId} {x i v : Operand} {k : AV → List ABox → Fr → Prop} (ho : o.op = .mapUpdate t x i v) (ht : strMap P t = true)
    (h : evG true e x fun x => evG true e i fun i => evG true e v fun v => mbox bx x fun j m => gStr i fun i => gStr v fun v =>
      Need (i.length ≤ maxLen ∧ v.length ≤ maxLen ∧ m.length < maxLen) (k (.val (.tuple #[])) (bx.set j (.map (mput m i v))) f)) : Leads mo P n w0 F0 box0 U e a o w k := by
  obtain ⟨xv, q1, hxv⟩ := evG_sound hs.env h
  obtain ⟨iv, q2, hiv⟩ := evG_sound hs.env q1
  obtain ⟨vv, q3, hvv⟩ := evG_sound hs.env q2
  clear h q1 q2
  obtain ⟨j, m, b, cap, es, clock, ex, hm, hb, hv, hh, hM, q4⟩ := mbox_inv hs.boxrep q3 hxv
  clear q3
  obtain ⟨ks, ei, q5⟩ := gStr_inv q4
  obtain ⟨us, ev, ⟨hl1, hl2, hl3⟩, hk⟩ := gStr_inv q5
  subst ex; subst ei; subst ev
  obtain ⟨kt, et, h1, h2, h3, _⟩ := strMap_inv ht
  have hie := hiv.str_inv
  have hve := hvv.str_inv
  have hlive : live bx j := fun h => by rw [hm] at h; cases h
  have hlt : b < w.heap.size := (Array.getElem?_eq_some_iff.1 hh).1
  have hc : (Instr.checkKey false 10000 kt (mkS ks)).run P w = .ok () w := MapKept.run_checkKey (d := .string) (k := mkS ks) h2 trivial _ 9999
  obtain ⟨p1, p2⟩ := hM.put hl1 hl2 hl3
  have fin : ∀ (es' : Array MapEntry) (clock' : Nat), MapIs es' clock' (mput m ks us) → (Instr.mapUpdate t (.map (some b)) (mkS ks) (mkS us)).run P w = .ok () { w with heap := w.heap.setIfInBounds b (.map es' clock') } → Leads mo P n w0 F0 box0 U e a o w k := fun es' clock' hM' hrun => by
    have S := hs.turnBox hb hlive (w' := { w with heap := w.heap.setIfInBounds b (.map es' clock') }) (x := .map (mput m ks us)) (hxd := by simp)
      ⟨Nat.le_refl _, rfl, rfl, rfl, by simp, fun k hk => by simp [Ne.symm hk]⟩
      (fun _ => ⟨es', clock', by simp [hlt], hM'⟩)
    intro next Q hn
    unfold Oper.wp
    have hr : (execOp a.eval o).run P w = .ok .skip { w with heap := w.heap.setIfInBounds b (.map es' clock') } := by
      simp only [execOp, ho, hv, hie, hve, Sem.run_bind, hrun, Result.andThen_ok, Sem.run_pure]
    rw [hr]
    exact hn _ _ _ _ _ _ S (.rep _ _ (.val _)) hk
  rcases hM.find ks with ⟨f1, f2, f3⟩ | ⟨q, x, u, f1, f2, f3, f4⟩
  · have hf := MapKept.run_findKey (w := w) h2 f1
    refine fin _ _ (p1 f3 f2) ?_
    simp [Instr.mapUpdate, run_underlying h1, MapKept.run_getObj_map hh, hc, hf, MapKept.run_setObj_map _ hh, Result.andThen]
  · have hf := MapKept.run_findKey (w := w) h2 f1
    have hx : es[q]? = some x := by simpa using f2
    refine fin _ _ (p2 q x u f2 f3 f4) ?_
    simp [Instr.mapUpdate, run_underlying h1, MapKept.run_getObj_map hh, hc, hf, hx, f3, MapKept.run_keyThatStays (d := .string) (k := mkS ks) trivial, MapKept.run_setObj_map _ hh, Result.andThen]

theorem leads_vmap (hs : Sim mo n w0 F0 box0 U g ⟨e, bx, f⟩ a w) {t : TypeId} {kk vk : MK} {k : AV → List ABox → Fr → Prop} (ho : o.op = .makeMap t none)
    (h : k (.bmap bx.length) (bx ++ [.vmap kk vk []]) f) : Leads mo P n w0 F0 box0 U e a o w k := by
  have hbl := hs.boxlen
  simp only at hbl
  have S := hs.newBox (.map #[] 0) 0 (.vmap kk vk []) ⟨#[], 0, heap_alloc_new w _, VMapIs.empty⟩
  refine leads_val (w' := w.alloc (.map #[] 0)) (v := .map (some w.heap.size)) ?_ S (.rep _ _ (.bmap _ _ 0 (by simp [← hbl]))) h
  have : (Instr.makeMap t none).run P w = .ok (.map (some w.heap.size)) (w.alloc (.map #[] 0)) := rfl
  simp only [execOp, ho, Option.map_none, Sem.run_bind, this, Result.andThen_ok, Sem.run_pure]

theorem leads_vput (hs : Sim mo n w0 F0 box0 U g ⟨e, bx, f⟩ a w) {t : TypeId} {x i v : Operand} {q : MK × MK} {k : AV → List ABox → Fr → Prop} (ho : o.op = .mapUpdate t x i v) (ht : mapKinds P t = some q)
    (h : evG true e x fun x => evG true e i fun i => evG true e v fun v => vbox bx q.1 q.2 x fun j m => gMA q.1 i fun i => gMA q.2 v fun v =>
      k (.val (.tuple #[])) (bx.set j (.vmap q.1 q.2 (vput m i v))) f) : Leads mo P n w0 F0 box0 U e a o w k := by
  obtain ⟨xv, q1, hxv⟩ := evG_sound hs.env h
  obtain ⟨iv, q2, hiv⟩ := evG_sound hs.env q1
  obtain ⟨vv, q3, hvv⟩ := evG_sound hs.env q2
  clear h q1 q2
  obtain ⟨j, m, b, cap, es, clock, ex, hm, hb, hv, hh, hM, q4⟩ := vbox_inv hs.boxrep q3 hxv
  clear q3
  obtain ⟨ks, hk1, hie, q5⟩ := gMA_inv q4 hiv
  obtain ⟨us, hv1, hve, hk⟩ := gMA_inv q5 hvv
  subst ex
  obtain ⟨kt, et, h1, h2, _⟩ := mapKinds_inv ht
  have hlive : live bx j := fun h => by rw [hm] at h; cases h
  have hlt : b < w.heap.size := (Array.getElem?_eq_some_iff.1 hh).1
  have hc : (Instr.checkKey false 10000 kt ks.val).run P w = .ok () w := MapKept.run_checkKey h2 (MA.isKey hk1) _ 9999
  obtain ⟨p1, p2⟩ := hM.put hk1 hv1
  have fin : ∀ (es' : Array MapEntry) (clock' : Nat), VMapIs q.1 q.2 es' clock' (vput m ks us) → (Instr.mapUpdate t (.map (some b)) ks.val us.val).run P w = .ok () { w with heap := w.heap.setIfInBounds b (.map es' clock') } → Leads mo P n w0 F0 box0 U e a o w k := fun es' clock' hM' hrun => by
    have S := hs.turnBox hb hlive (w' := { w with heap := w.heap.setIfInBounds b (.map es' clock') }) (x := .vmap q.1 q.2 (vput m ks us)) (hxd := by simp)
      ⟨Nat.le_refl _, rfl, rfl, rfl, by simp, fun k hk => by simp [Ne.symm hk]⟩
      (fun _ => ⟨es', clock', by simp [hlt], hM'⟩)
    intro next Q hn
    unfold Oper.wp
    have hr : (execOp a.eval o).run P w = .ok .skip { w with heap := w.heap.setIfInBounds b (.map es' clock') } := by
      simp only [execOp, ho, hv, hie, hve, Sem.run_bind, hrun, Result.andThen_ok, Sem.run_pure]
    rw [hr]
    exact hn _ _ _ _ _ _ S (.rep _ _ (.val _)) hk
  rcases hM.find hk1 with ⟨f1, f2, f3⟩ | ⟨z, x, u, f1, f2, f3, f4⟩
  · have hf := MapKept.run_findKey (w := w) h2 f1
    refine fin _ _ (p1 f3 f2) ?_
    simp [Instr.mapUpdate, run_underlying h1, MapKept.run_getObj_map hh, hc, hf, MapKept.run_setObj_map _ hh, Result.andThen]
  · have hf := MapKept.run_findKey (w := w) h2 f1
    have hx : es[z]? = some x := by simpa using f2
    refine fin _ _ (p2 z x u f2 f3 f4) ?_
    simp [Instr.mapUpdate, run_underlying h1, MapKept.run_getObj_map hh, hc, hf, hx, f3, MapKept.run_keyThatStays (MA.isKey hk1), MapKept.run_setObj_map _ hh, Result.andThen]

theorem leads_range (hs : Sim mo n w0 F0 box0 U g ⟨e, bx, f⟩ a w) {t : TypeId} {x : Operand} {k : AV → List ABox → Fr → Prop} (ho : o.op = .range t x) (ht : P.underlying t = some .string)
    (h : evG true e x fun x => match x with | .str s => k (.bptr bx.length 0) (bx ++ [.iter s 0]) f | _ => Stop) : Leads mo P n w0 F0 box0 U e a o w k := by
  obtain ⟨xv, h, hxv⟩ := evG_sound hs.env h
  split at h
  · rename_i s
    have hbl := hs.boxlen
    simp only at hbl
    have S := hs.newBox (.stringIter ⟨s.toArray⟩ 0) 0 (.iter s 0) (heap_alloc_new w _)
    refine leads_val (w' := w.alloc (.stringIter ⟨s.toArray⟩ 0)) (v := .pointer (some ⟨w.heap.size, 0, none⟩)) ?_ S (.rep _ _ (.bptr _ _ _ 0 (by simp [← hbl]))) h
    simp only [execOp, ho, hxv.str_inv, mkS, Sem.run_bind, run_range_string w t _ ht, Result.andThen_ok, Sem.run_pure, World.iter]
  · exact h.no

theorem leads_next (hs : Sim mo n w0 F0 box0 U g ⟨e, bx, f⟩ a w) {x : Operand} {k : AV → List ABox → Fr → Prop} (ho : o.op = .next x true)
    (h : evG true e x fun x => match x with
      | .bptr j 0 => match bx[j]? with
        | some (.iter s pos) => Fork (decide (pos < s.length))
            (k (.tup [.val (.bool true), .val (.int .i64 pos), .val (.int .i32 (decodeS s pos).1)]) (bx.set j (.iter s (pos + (decodeS s pos).2))) f)
            (k (.tup [.val (.bool false)]) bx f)
        | _ => Stop
      | _ => Stop) : Leads mo P n w0 F0 box0 U e a o w k := by
  obtain ⟨xv, h, hxv⟩ := evG_sound hs.env h
  split at h
  · rename_i j
    split at h
    · rename_i s pos hold
      obtain ⟨b, cap, hb, hpe⟩ := hxv.bptr_inv
      have hh : w.heap[b]? = some (.stringIter ⟨s.toArray⟩ pos) := hs.boxrep j _ _ hb hold
      have hlive : live bx j := fun h => by rw [hold] at h; cases h
      obtain ⟨h1, h2⟩ := h
      by_cases hp : pos < s.length
      · have hk := h1 (by simp [hp])
        have hr := Lib.run_next_any_at (P := P) w b ⟨s.toArray⟩ pos o.type hh hp
        have hlt : b < w.heap.size := (hs.boxin j b cap hb).2
        have S := hs.turnBox hb hlive (w' := w.iterAt b ⟨s.toArray⟩ (pos + (decodeS s pos).2)) (x := .iter s (pos + (decodeS s pos).2)) (hxd := by simp)
          ⟨Nat.le_refl _, rfl, rfl, rfl, by simp [World.iterAt], fun k hk => by simp [World.iterAt, Ne.symm hk]⟩
          (fun _ => by show (w.iterAt b ⟨s.toArray⟩ _).heap[b]? = _; simp [World.iterAt, hlt])
        refine leads_val (v := .tuple #[.bool true, .int .i64 pos, .int .i32 (decodeS s pos).1]) (w' := w.iterAt b ⟨s.toArray⟩ (pos + (decodeS s pos).2)) ?_ S (.rep _ _ (.tup _ _ rfl (fun i c hc => ?_))) hk
        · simp only [execOp, ho, hpe, Sem.run_bind, hr, Result.andThen_ok, Sem.run_pure, decodeS]
        · match i, hc with
          | 0, hc => cases hc; exact .val _
          | 1, hc => cases hc; exact .val _
          | 2, hc => cases hc; exact .val _
          | i + 3, hc => simp at hc
      · have hk := h2 (by simp [hp])
        have hr := Lib.run_next_end_at (P := P) w b ⟨s.toArray⟩ pos o.type hh hp
        refine leads_val (v := .tuple #[.bool false]) (w' := w) ?_ hs (.rep _ _ (.tup _ _ rfl (fun i c hc => ?_))) hk
        · simp only [execOp, ho, hpe, Sem.run_bind, hr, Result.andThen_ok, Sem.run_pure]
        · match i, hc with
          | 0, hc => cases hc; exact .val _
          | i + 1, hc => simp at hc
    · exact h.no
  · exact h.no
end
end Abs
end Go.Proofs.Ytkbblglbbfdnpaa
namespace Go.Proofs.Ytkbblglbbfdnpaa
namespace Abs
variable {mo : Bool} {U : List (AV × Value)}
open Go.RowKit

section
variable {P : Program} {n : Nat} {w0 : World} {F0 : Nat → Nat} {box0 : List BId} {g : G} {e : Env} {bx : List ABox} {f : Fr} {a : Act} {w : World} {o : Oper}

/-- a new block that is read from now on, of no token -/
theorem Sim.newRead (hs : Sim mo n w0 F0 box0 U g ⟨e, bx, f⟩ a w) (o : Obj) (m : Nat) :
    Sim mo n w0 F0 box0 U { F := setF g.F w.heap.size m, tok := g.tok, box := g.box } ⟨e, bx, f⟩ a (w.alloc o) := by
  have hb : Bel mo w.heap.size w (w.alloc o) := (Bel.refl _ _).alloc (Nat.le_refl _) o
  have h0 := hs.out w.heap.size (Nat.le_refl _)
  have L0 := later_alloc hs o
  have hsz : (w.alloc o).heap.size = w.heap.size + 1 := by simp
  have L : Later w g.F g.tok f (w.alloc o) (setF g.F w.heap.size m) g.tok f := by
    refine ⟨L0.cell, fun b => ?_, fun k t s n hk => ⟨n, hk, Nat.le_refl _, fun _ => ⟨rfl, fun b hb => ?_⟩⟩⟩
    · unfold setF; split
      · rename_i h; rw [h, h0]; exact Nat.zero_le _
      · exact Nat.le_refl _
    · have h1 := (hs.tokin k b hb).2
      exact ⟨Below.heap_alloc _ _ _ h1, by unfold setF; rw [if_neg (by omega)]⟩
  exact {
    defers := hs.defers, size := hs.size
    env := hs.env.later L (fun _ _ h => h)
    held := hs.held.later L (fun _ _ h => h)
    below := hs.below.trans hb
    old := fun b h => by have := hs.below.size; simp only [setF]; rw [if_neg (by omega)]; exact hs.old b h
    out := fun b h => by simp only [setF]; rw [if_neg (by omega)]; exact hs.out b (by omega)
    boxlen := hs.boxlen
    boxpre := hs.boxpre
    boxin := fun j b c h => by have := hs.boxin j b c h; exact ⟨this.1, by omega⟩
    boxF := fun j b c h hl => by
      have := (hs.boxin j b c h).2
      simp only [setF]; rw [if_neg (by omega)]; exact hs.boxF j b c h hl
    boxrep := hs.boxrep.later L (fun j b c h _ => hb.block b (hs.boxin j b c h).2)
    boxinj := hs.boxinj
    cond := hs.cond
    toklen := hs.toklen
    tokin := fun k b h => by have := hs.tokin k b h; exact ⟨this.1, by omega⟩
    tokbox := hs.tokbox
    tokinj := hs.tokinj }

/-- a row of cells that a call has just made reads as a list -/
theorem rep_row {B : Nat} {w' : World} {F' : Nat → Nat} {tok' : List (Option Nat)} {fr' : Fr} {bo : List BId} {o' : Option Nat} {cs : List (List AV)} {vss : List (List Value)} {b sz el : Nat}
    (hc : ∀ c ∈ cs, c.length = sz) (hB : Both (Both (CellR B w' F' tok' fr' [])) cs vss) (hh : w'.heap[b]? = some (.cells vss.flatten.toArray el (0, 0))) (hF : F' b = cs.length * sz)
    (ho : ∀ k, o' = some k → fr'[k]? = some (el, sz, cs.length) ∧ tok'[k]? = some (some b) ∧ B ≤ b) (h64 : cs.length ≤ 64) :
    Rep B w' F' tok' fr' bo (.list o' cs) (.slice (some ⟨b, 0, none⟩) cs.length cs.length) := by
  have hv : ∀ v ∈ vss, v.length = sz := fun v hv => by
    obtain ⟨i, hi⟩ := List.getElem?_of_mem hv
    obtain ⟨c, hci⟩ : ∃ c, cs[i]? = some c := ⟨_, List.getElem?_eq_getElem (by rw [hB.1]; exact getElem?_lt hi)⟩
    rw [← (hB.2 i c v hci hi).1, hc c (List.mem_of_getElem? hci)]
  have hfl := length_flatten' sz vss hv
  have hcell : ∀ q, w'.cell? ⟨b, q, none⟩ = vss.flatten[q]? := fun q => by simp [World.cell?, hh]
  have get : ∀ i e j c, cs[i]? = some e → e[j]? = some c → ∃ v u, vss[i]? = some v ∧ v[j]? = some u ∧ CellR B w' F' tok' fr' [] c u := fun i e j c hi hj => by
    obtain ⟨v, hv⟩ : ∃ v, vss[i]? = some v := ⟨_, List.getElem?_eq_getElem (by rw [← hB.1]; exact getElem?_lt hi)⟩
    have h1 := hB.2 i e v hi hv
    obtain ⟨u, hu⟩ : ∃ u, v[j]? = some u := ⟨_, List.getElem?_eq_getElem (by rw [← h1.1]; exact getElem?_lt hj)⟩
    exact ⟨v, u, hv, hu, h1.2 j c u hj hu⟩
  refine .list o' cs _ _ sz b 0 (fun i j => ((vss.getD i []).getD j undef)) (Nat.le_refl _) (fun _ => rfl) hc (fun _ => by rw [hF]; omega) (fun i e j c hi hj => ?_) (fun i e j c hi hj => ?_) (fun k hk => ?_)
  · obtain ⟨v, u, hv', hu, hcr⟩ := get i e j c hi hj
    have e1 : (vss.getD i []).getD j undef = u := by simp [List.getD, hv', hu]
    rw [e1, Nat.zero_add, hcell, flatten_get sz vss i j v u hv hv' hu]
    exact ⟨rfl, hcr.2⟩
  · obtain ⟨v, u, hv', hu, hcr⟩ := get i e j c hi hj
    have e1 : (vss.getD i []).getD j undef = u := by simp [List.getD, hv', hu]
    rw [e1]; exact hcr.1
  · obtain ⟨h1, h2, h3⟩ := ho k hk
    refine ⟨el, sz, cs.length, h1, Nat.le_refl _, fun _ => ⟨rfl, ⟨vss.flatten, by rw [hfl, hB.1], Or.inr ⟨b, cs.length, _, rfl, h3, hh, Nat.le_refl _, by unfold maxLen; omega, by simp [hfl, hB.1], ?_⟩⟩, h2, fun b' hb' => by cases hb'; exact hF⟩⟩
    rw [hB.1, ← hfl]; exact List.take_length

theorem both_append {α β : Type} {R : α → β → Prop} {xs xs' : List α} {ys ys' : List β} (h : Both R xs ys) (h' : Both R xs' ys') : Both R (xs ++ xs') (ys ++ ys') := by
  refine ⟨by simp [h.1, h'.1], fun i x y hx hy => ?_⟩
  rw [List.getElem?_append] at hx hy
  have := h.1
  split at hx
  · rename_i hi; rw [if_pos (by omega)] at hy; exact h.2 i x y hx hy
  · rename_i hi; rw [if_neg (by omega)] at hy; exact h'.2 _ x y hx (by rw [this]; exact hy)

/-- a row's values say what a box of it holds -/
theorem boxOk_row {B : Nat} {w' : World} {F' : Nat → Nat} {tok' : List (Option Nat)} {fr' : Fr} {bo : List BId} {b cap el sz : Nat} {cs : List AV} {c : Array Value} {vals rest : List Value} (hh : w'.heap[b]? = some (.cells c el (0, 0)))
    (hc : c.toList = vals ++ rest) (hB : Both (Rep B w' F' tok' fr' bo) cs vals) (h1 : ∀ u ∈ vals, u.oneCell' = true) (hl : (vals ++ rest).length = cap * sz) (hm : cap ≤ maxLen) : BoxOk B w' F' tok' fr' bo (.blk b cap) (.cells (.row el sz) cs) := by
  have hcs : c.size = (vals ++ rest).length := by rw [← hc]; simp
  refine ⟨_, el, hh, by have := hB.1; rw [hcs, List.length_append]; omega, fun i x hx => ?_, rfl, by omega, hm⟩
  have hi : i < vals.length := by have := getElem?_lt hx; rw [← hB.1]; exact this
  have e1 : c.getD i undef = vals[i] := by
    have h2 : i < c.size := by rw [hcs, List.length_append]; omega
    have h3 : c.toList[i]? = some vals[i] := by rw [hc, List.getElem?_append_left hi, List.getElem?_eq_getElem hi]
    have h4 : c[i]? = some vals[i] := by simpa using h3
    simp [Array.getD, h2, (Array.getElem?_eq_some_iff.1 h4).2]
  rw [e1]
  exact ⟨hB.2 i x _ hx (List.getElem?_eq_getElem hi), h1 _ (List.getElem_mem hi)⟩

theorem leads_bsliceB (hs : Sim mo n w0 F0 box0 U g ⟨e, bx, f⟩ a w) {t : TypeId} {m : Nat} {ps : Array (Nat × Operand)} {own : Bool} {k : AV → List ABox → Fr → Prop} (ho : o.op = .buildSlice t m ps)
    (hg : goodElem P t = true) (hm : m ≤ 64) (hix : ps.toList.map (·.1) = List.range m)
    (h : evs true e (ps.toList.map (·.2)) fun vs => cellsKs vs fun cs => Need (cs.all (fun c => c.length == P.cellsOf (elemTy P t)) = true)
      (match own with
        | true => LitO (elemTy P t) (P.cellsOf (elemTy P t)) cs bx f k
        | false => Lit (elemTy P t) (P.cellsOf (elemTy P t)) cs bx f k)) : LeadsB mo P n w0 F0 box0 U g.tok e a o w k := by
  obtain ⟨el, ti, z, hu, hi, hz, hzs, hpos, h64, hel, hcz⟩ := goodElem_inv hg
  rw [hel, hcz] at h
  obtain ⟨vs, h1, hvs⟩ := evs_sound hs.env h
  clear h
  obtain ⟨cs, h2, hcs⟩ := cellsKs_sound h1 hvs
  clear h1
  obtain ⟨hsz, hk⟩ := h2
  have hsz' : ∀ c ∈ cs, c.length = ti.size := fun c hc => by have := List.all_eq_true.1 hsz c hc; simpa using this
  have nr : cs.all (fun c => c.all noRef) = true → ∀ c ∈ cs, ∀ x ∈ c, noRef x = true := fun h c hc x hx => List.all_eq_true.1 (List.all_eq_true.1 h c hc) x hx
  have e1 : ((ps.toList.map (·.2)).map a.eval).map (fun v => v.cells.toList) = (ps.toList.map fun p => (p.1, a.eval p.2)).map fun p => p.2.cells.toList := by simp [List.map_map, Function.comp_def]
  rw [e1] at hcs
  have hlm : ps.toList.length = m := by have := congrArg List.length hix; simpa using this
  have hlc : cs.length = m := by rw [hcs.1]; simp [hlm]
  have hv : ∀ v ∈ (ps.toList.map fun p => (p.1, a.eval p.2)).map fun p => p.2.cells.toList, v.length = ti.size := fun v hv => by
    obtain ⟨i, hi'⟩ := List.getElem?_of_mem hv
    obtain ⟨c, hci⟩ : ∃ c, cs[i]? = some c := ⟨_, List.getElem?_eq_getElem (by rw [hcs.1]; exact getElem?_lt hi')⟩
    rw [← (hcs.2 i c v hci hi').1, hsz' c (List.mem_of_getElem? hci)]
  -- the run
  have hrun : (execOp a.eval o).run P w = .ok (.value (.slice (some ⟨w.heap.size, 0, none⟩) m m)) (w.alloc (.cells (((ps.toList.map fun p => (p.1, a.eval p.2)).map fun p => p.2.cells.toList).flatten).toArray el)) := by
    have key : ∀ (init : Array Value), init.size = m * ti.size → ∃ cells', Instr.fill (fun i => some (i * ti.size, ti.size)) init (ps.toList.map fun p => (p.1, a.eval p.2)) = some cells' ∧
        cells'.toList = ((ps.toList.map fun p => (p.1, a.eval p.2)).map fun p => p.2.cells.toList).flatten := by
      intro init hinit
      obtain ⟨cells', h1, h2⟩ := fill_run (fun i => some (i * ti.size, ti.size)) (ps.toList.map fun p => (p.1, a.eval p.2)) init ((List.range m).map fun i => (i * ti.size, ti.size))
        (by rw [← hix]; simp [List.map_map, Function.comp_def])
        (by
          have e2 : (ps.toList.map fun p => (p.1, a.eval p.2)).map (fun p => p.2.cells.size) = ((ps.toList.map fun p => (p.1, a.eval p.2)).map fun p => p.2.cells.toList).map List.length := by simp [List.map_map, Function.comp_def]
          have e3 : ((List.range m).map fun i => (i * ti.size, ti.size)).map (·.2) = List.replicate m ti.size := by
            apply List.ext_getElem?
            intro i
            simp only [List.map_map, List.getElem?_map, List.getElem?_replicate]
            rcases Nat.lt_or_ge i m with h | h <;> simp [h]
          have e4 : ((ps.toList.map fun p => (p.1, a.eval p.2)).map fun p => p.2.cells.toList).map List.length = List.replicate m ti.size := by
            rw [List.eq_replicate_iff]
            refine ⟨by simp [hlm], fun b hb => ?_⟩
            obtain ⟨v, hv', rfl⟩ := List.mem_map.1 hb
            exact hv v hv'
          rw [e2, e3, e4])
        (fun q hq => by
          obtain ⟨i, hi', rfl⟩ := List.mem_map.1 hq
          have : (i + 1) * ti.size ≤ m * ti.size := Nat.mul_le_mul_right _ (List.mem_range.1 hi')
          rw [Nat.add_mul] at this
          simp only; omega)
      refine ⟨cells', h1, ?_⟩
      have h3 := fillAt_flatten ti.size ((ps.toList.map fun p => (p.1, a.eval p.2)).map fun p => p.2.cells.toList) 0 [] init.toList hv (by simp) (by simp [hinit, hlm])
      rw [h2]
      simp only [List.nil_append, List.length_map, hlm] at h3
      rw [← h3, List.range_eq_range', List.map_map]
      rfl
    obtain ⟨cells', hf, hc'⟩ := key ((Array.range (m * ti.size)).map ((if m * ti.size = 0 then #[] else z.cells)[· % (if m * ti.size = 0 then #[] else z.cells).size]!)) (by simp)
    have hc'' : cells' = (((ps.toList.map fun p => (p.1, a.eval p.2)).map fun p => p.2.cells.toList).flatten).toArray := by apply Array.ext'; simpa using hc'
    have h24 : ¬ (16777216 < m * ti.size) := by have := Nat.mul_le_mul hm h64; omega
    have hf' : Instr.fill (fun i => some (i * ti.size, ti.size)) ((Array.range (m * ti.size)).map ((if m * ti.size = 0 then #[] else z.cells)[· % (if m * ti.size = 0 then #[] else z.cells).size]!)) (ps.map fun (i, x) => (i, a.eval x)).toList = some cells' := by simpa using hf
    by_cases hm0 : m * ti.size = 0
    · simp only [hm0, if_true] at hf'
      simp only [execOp, ho, Instr.buildSlice, Sem.run_bind, run_underlying hu, Result.andThen_ok, sizeOf, typeInfo, run_program, hi, Sem.run_pure, hm0, if_true, Sem.run_ite, show ¬ ((0 : Nat) > 2 ^ 24) by decide, if_false, hf', newRow, run_newObj, World.alloc_eq, hc'']
    · simp only [hm0, if_false] at hf'
      simp only [execOp, ho, Instr.buildSlice, Sem.run_bind, run_underlying hu, Result.andThen_ok, sizeOf, typeInfo, run_program, hi, Sem.run_pure, hm0, Sem.run_ite, show ¬ (m * ti.size > 2 ^ 24) from h24, if_false, zeroValue, hz, hf', newRow, run_newObj, World.alloc_eq, hc'']
  rw [← hlc] at hrun
  have hbel : Bel mo w.heap.size w (w.alloc (.cells (((ps.toList.map fun p => (p.1, a.eval p.2)).map fun p => p.2.cells.toList).flatten).toArray el)) := (Bel.refl _ _).alloc (Nat.le_refl _) _
  have asBox : k (.bsl bx.length cs.length) (bx ++ [.cells (.row el ti.size) cs.flatten]) f → LeadsB mo P n w0 F0 box0 U g.tok e a o w k := fun hk => by
    have hfl : ((ps.toList.map fun p => (p.1, a.eval p.2)).map fun p => p.2.cells.toList).flatten.length = cs.length * ti.size := by rw [length_flatten' ti.size _ hv, hcs.1]
    have hcfl : cs.flatten.length = cs.length * ti.size := length_flatten' ti.size _ hsz'
    have hbl := hs.boxlen
    simp only at hbl
    have L0 := later_alloc hs (.cells (((ps.toList.map fun p => (p.1, a.eval p.2)).map fun p => p.2.cells.toList).flatten).toArray el)
    have hext : ∀ (j : Nat) d, g.box[j]? = some d → (g.box ++ [BId.blk w.heap.size cs.length])[j]? = some d := fun j d h => by rw [List.getElem?_append_left (getElem?_lt h)]; exact h
    have S := hs.newBox (.cells (((ps.toList.map fun p => (p.1, a.eval p.2)).map fun p => p.2.cells.toList).flatten).toArray el) cs.length (.cells (.row el ti.size) cs.flatten)
      (boxOk_row (rest := []) (heap_alloc_new w _) (by simp) ⟨(both_flatten (sz := ti.size) hcs hsz').1, fun i x u hx hu => ((both_flatten (sz := ti.size) hcs hsz').2 i x u hx hu).1.later L0 hext⟩ (fun u hu => by
         obtain ⟨i, hi⟩ := List.getElem?_of_mem hu
         have hB := both_flatten (sz := ti.size) hcs hsz'
         have hi' : i < cs.flatten.length := by rw [hB.1]; exact getElem?_lt hi
         exact (hB.2 i _ u (List.getElem?_eq_getElem hi') hi).2) (by rw [List.append_nil, hfl]) (by unfold maxLen; omega))
    exact leads_valB hrun S (.rep _ _ (.bsl _ _ w.heap.size cs.length (by simp [← hbl]) (Nat.le_refl _))) hbel hk
  cases own with
  | true =>
    rcases hk with ⟨hnr', hk⟩ | hk
    rotate_left
    · exact asBox hk
    have hnr := nr hnr'
    have S := hs.newTok (.cells (((ps.toList.map fun p => (p.1, a.eval p.2)).map fun p => p.2.cells.toList).flatten).toArray el) (cs.length * ti.size) (el, ti.size, cs.length)
    have L := later_tok hs (.cells (((ps.toList.map fun p => (p.1, a.eval p.2)).map fun p => p.2.cells.toList).flatten).toArray el) (cs.length * ti.size) (some w.heap.size) (el, ti.size, cs.length)
    refine leads_valB hrun S (.rep _ _ (rep_row hsz' ⟨hcs.1, fun i c v hc hv' => ⟨(hcs.2 i c v hc hv').1, fun j x u hx hu' => ⟨(((hcs.2 i c v hc hv').2 j x u hx hu').1.anyBox [] (hnr c (List.mem_of_getElem? hc) x (List.mem_of_getElem? hx))).later L (by simp), ((hcs.2 i c v hc hv').2 j x u hx hu').2⟩⟩⟩ (heap_alloc_new w _) (by simp [setF]) (fun k hk => ?_) (by omega))) hbel hk (TokNew.app (ids := [some w.heap.size]) fun k b hk => by
      cases k with
      | zero => simp at hk; omega
      | succ k => simp at hk)
    cases hk
    refine ⟨by simp, ?_, hs.below.size⟩
    have := hs.toklen
    simp only at this
    rw [← this]; simp
  | false =>
   rcases hk with ⟨hnr', hk⟩ | hk
   · have hnr := nr hnr'
     have S := hs.newRead (.cells (((ps.toList.map fun p => (p.1, a.eval p.2)).map fun p => p.2.cells.toList).flatten).toArray el) (cs.length * ti.size)
     have L0 := later_alloc hs (.cells (((ps.toList.map fun p => (p.1, a.eval p.2)).map fun p => p.2.cells.toList).flatten).toArray el)
     have h0 := hs.out w.heap.size (Nat.le_refl _)
     have L : Later w g.F g.tok f (w.alloc (.cells (((ps.toList.map fun p => (p.1, a.eval p.2)).map fun p => p.2.cells.toList).flatten).toArray el)) (setF g.F w.heap.size (cs.length * ti.size)) g.tok f := by
       refine ⟨L0.cell, fun b => ?_, fun k t s n hk => ⟨n, hk, Nat.le_refl _, fun _ => ⟨rfl, fun b hb => ?_⟩⟩⟩
       · unfold setF; split
         · rename_i h; rw [h, h0]; exact Nat.zero_le _
         · exact Nat.le_refl _
       · have h1 := (hs.tokin k b hb).2
         exact ⟨Below.heap_alloc _ _ _ h1, by unfold setF; rw [if_neg (by omega)]⟩
     exact leads_valB hrun S (.rep _ _ (rep_row (el := el) hsz' ⟨hcs.1, fun i c v hc hv' => ⟨(hcs.2 i c v hc hv').1, fun j x u hx hu' => ⟨(((hcs.2 i c v hc hv').2 j x u hx hu').1.anyBox [] (hnr c (List.mem_of_getElem? hc) x (List.mem_of_getElem? hx))).later L (by simp), ((hcs.2 i c v hc hv').2 j x u hx hu').2⟩⟩⟩ (heap_alloc_new w _) (by simp [setF]) (fun k hk => by cases hk) (by omega))) hbel hk
   · exact asBox hk
theorem leads_bslice (hs : Sim mo n w0 F0 box0 U g ⟨e, bx, f⟩ a w) {t : TypeId} {m : Nat} {ps : Array (Nat × Operand)} {own : Bool} {k : AV → List ABox → Fr → Prop} (ho : o.op = .buildSlice t m ps)
    (hg : goodElem P t = true) (hm : m ≤ 64) (hix : ps.toList.map (·.1) = List.range m)
    (h : evs true e (ps.toList.map (·.2)) fun vs => cellsKs vs fun cs => Need (cs.all (fun c => c.length == P.cellsOf (elemTy P t)) = true)
      (match own with
        | true => LitO (elemTy P t) (P.cellsOf (elemTy P t)) cs bx f k
        | false => Lit (elemTy P t) (P.cellsOf (elemTy P t)) cs bx f k)) : Leads mo P n w0 F0 box0 U e a o w k := (leads_bsliceB hs ho hg hm hix h).leads

/-- a box that is not spoken of any more -/
theorem Sim.kill (hs : Sim mo n w0 F0 box0 U g ⟨e, bx, f⟩ a w) (j : Nat) : Sim mo n w0 F0 box0 U g ⟨e, bx.set j .dead, f⟩ a w := by
  have ld : ∀ {i : Nat}, live (bx.set j .dead) i → live bx i := fun {i} h => by
    unfold live at h ⊢
    rw [List.getElem?_set] at h
    by_cases hij : j = i
    · subst hij
      rw [if_pos rfl] at h
      by_cases hl : j < bx.length
      · rw [if_pos hl] at h; exact absurd rfl h
      · rw [List.getElem?_eq_none (by omega)]; simp
    · rw [if_neg hij] at h; exact h
  exact { hs with
    boxlen := by simpa using hs.boxlen
    boxF := fun i b c hi hl => hs.boxF i b c hi (ld hl)
    boxrep := fun i d y hd hy => by
      simp only [List.getElem?_set] at hy
      by_cases hij : j = i
      · subst hij
        rw [if_pos rfl] at hy
        split at hy
        · cases hy; cases d <;> exact trivial
        · cases hy
      · rw [if_neg hij] at hy
        exact hs.boxrep i d y hd hy
    boxinj := fun i i' b c c' hi hi' l l' => hs.boxinj i i' b c c' hi hi' (ld l) (ld l')
    tokbox := fun q b i c hq hi hl => hs.tokbox q b i c hq hi (ld hl) }

theorem kill_not {j : Nat} (hj : j < bx.length) : ¬ live (bx.set j .dead) j := fun h => h (by simp [hj])

/-- a box under another number -/
theorem Sim.rehome (hs : Sim mo n w0 F0 box0 U g ⟨e, bx, f⟩ a w) {j : Nat} {d : BId} {x : ABox} (hd : g.box[j]? = some d) (hx : bx[j]? = some x) (hxd : x ≠ .dead) :
    Sim mo n w0 F0 box0 U { g with box := g.box ++ [d] } ⟨e, bx.set j .dead ++ [x], f⟩ a w := by
  have S := hs.kill j
  have hbl := hs.boxlen
  simp only at hbl
  have hjl : j < bx.length := getElem?_lt hx
  have hlive : live bx j := fun h => by rw [hx] at h; exact hxd (Option.some.inj h)
  have hext : ∀ (j : Nat) d', g.box[j]? = some d' → (g.box ++ [d])[j]? = some d' := fun j d' h => by rw [List.getElem?_append_left (getElem?_lt h)]; exact h
  have L : Later w g.F g.tok f w g.F g.tok f := Later.refl _ _ _ _
  have hlen : (bx.set j .dead).length = bx.length := List.length_set
  have ldead : ∀ {i : Nat}, live (bx.set j .dead) i → live bx i ∧ i ≠ j := fun {i} h => by
    refine ⟨?_, fun hij => ?_⟩
    · unfold live at h ⊢
      rw [List.getElem?_set] at h
      by_cases hij : j = i
      · subst hij; rw [if_pos rfl, if_pos hjl] at h; exact absurd rfl h
      · rw [if_neg hij] at h; exact h
    · subst hij; exact kill_not hjl h
  have lv : ∀ {i : Nat}, i < bx.length → (live (bx.set j .dead ++ [x]) i ↔ live (bx.set j .dead) i) := fun h => live_append (by rw [hlen]; exact h)
  exact { S with
    env := S.env.later L hext
    held := S.held.later L hext
    boxlen := by simp [hbl]
    boxpre := fun j d h => hext j d (hs.boxpre j d h)
    boxin := fun i b c h => by
      rcases getElem?_append_one h with h | ⟨_, h⟩
      · exact hs.boxin i b c h
      · exact hs.boxin j b c (by rw [hd, h])
    boxF := fun i b c h hl => by
      rcases getElem?_append_one h with h | ⟨_, h⟩
      · exact S.boxF i b c h ((lv (by have := getElem?_lt h; omega)).1 hl)
      · exact hs.boxF j b c (by rw [hd, h]) hlive
    boxrep := fun i d' y h hy => by
      rcases getElem?_append_one h with h | ⟨hi, hdd⟩
      · have hil := getElem?_lt h
        have hy' : (bx.set j .dead)[i]? = some y := by
          rcases getElem?_append_one hy with hy | ⟨h1, _⟩
          · exact hy
          · omega
        exact (S.boxrep i d' y h hy').later L hext (fun _ _ _ _ => rfl)
      · rcases getElem?_append_one hy with hy | ⟨_, hyy⟩
        · have := getElem?_lt hy; omega
        · subst hyy; subst hdd
          exact (hs.boxrep j _ _ hd hx).later L hext (fun _ _ _ _ => rfl)
    boxinj := fun i k b c c' hi hk li lk => by
      rcases getElem?_append_one hi with h1 | ⟨h1, h2⟩ <;> rcases getElem?_append_one hk with h3 | ⟨h3, h4⟩
      · exact S.boxinj i k b c c' h1 h3 ((lv (by have := getElem?_lt h1; omega)).1 li) ((lv (by have := getElem?_lt h3; omega)).1 lk)
      · obtain ⟨l1, l2⟩ := ldead ((lv (by have := getElem?_lt h1; omega)).1 li)
        exact absurd (hs.boxinj i j b c c' h1 (by rw [hd, h4]) l1 hlive) l2
      · obtain ⟨l1, l2⟩ := ldead ((lv (by have := getElem?_lt h3; omega)).1 lk)
        exact absurd (hs.boxinj k j b c' c h3 (by rw [hd, h2]) l1 hlive) l2
      · omega
    tokbox := fun q b i c hq hi hl => by
      rcases getElem?_append_one hi with h1 | ⟨h1, h2⟩
      · exact S.tokbox q b i c hq h1 ((lv (by have := getElem?_lt h1; omega)).1 hl)
      · exact hs.tokbox q b j c hq (by rw [hd, h2]) hlive }

/-- a box that is nil -/
theorem Sim.nilBox (hs : Sim mo n w0 F0 box0 U g ⟨e, bx, f⟩ a w) (k : RK) : Sim mo n w0 F0 box0 U { g with box := g.box ++ [.nil] } ⟨e, bx ++ [.cells k []], f⟩ a w := by
  have hbl := hs.boxlen
  simp only at hbl
  have hext : ∀ (j : Nat) d', g.box[j]? = some d' → (g.box ++ [BId.nil])[j]? = some d' := fun j d' h => by rw [List.getElem?_append_left (getElem?_lt h)]; exact h
  have L : Later w g.F g.tok f w g.F g.tok f := Later.refl _ _ _ _
  have lv : ∀ {i : Nat}, i < bx.length → (live (bx ++ [.cells k []]) i ↔ live bx i) := fun h => live_append h
  have back : ∀ {i : Nat} {b c : Nat}, (g.box ++ [BId.nil])[i]? = some (.blk b c) → g.box[i]? = some (.blk b c) ∧ i < bx.length := fun {i b c} h => by
    rcases getElem?_append_one h with h | ⟨_, h⟩
    · exact ⟨h, by have := getElem?_lt h; omega⟩
    · cases h
  exact { hs with
    env := hs.env.later L hext
    held := hs.held.later L hext
    boxlen := by simp [hbl]
    boxpre := fun j d h => hext j d (hs.boxpre j d h)
    boxin := fun i b c h => hs.boxin i b c (back h).1
    boxF := fun i b c h hl => hs.boxF i b c (back h).1 ((lv (back h).2).1 hl)
    boxrep := fun i d' y h hy => by
      rcases getElem?_append_one h with h | ⟨hi, hdd⟩
      · have hil := getElem?_lt h
        have hy' : bx[i]? = some y := by
          rcases getElem?_append_one hy with hy | ⟨h1, _⟩
          · exact hy
          · omega
        exact (hs.boxrep i d' y h hy').later L hext (fun _ _ _ _ => rfl)
      · rcases getElem?_append_one hy with hy | ⟨_, hyy⟩
        · have := getElem?_lt hy; omega
        · subst hyy; subst hdd; rfl
    boxinj := fun i k b c c' hi hk li lk => hs.boxinj i k b c c' (back hi).1 (back hk).1 ((lv (back hi).2).1 li) ((lv (back hk).2).1 lk)
    tokbox := fun q b i c hq hi hl => hs.tokbox q b i c hq (back hi).1 ((lv (back hi).2).1 hl) }

/-- what is appended -/
theorem elems_rep (hs : Sim mo n w0 F0 box0 U g ⟨e, bx, f⟩ a w) {sz : Nat} {y : AV} {v : Value} {k : List AV → Nat → Prop} (h : elemsK bx sz y k) (hy : RepT w0.heap.size w g.F g.tok f g.box y v) (hpos : 0 < sz) :
    ∃ cs m ay capy news, k cs m ∧ v = .slice ay m capy ∧ cs.length = m * sz ∧ Both (Rep w0.heap.size w g.F g.tok f g.box) cs news ∧ (∀ u ∈ news, u.oneCell' = true) ∧
      (0 < m → ∃ ad : Addr, ay = some ad ∧ ∀ q u, news[q]? = some u → w.cell? (ad.add q) = some u) := by
  unfold elemsK at h
  split at h
  · rename_i j m
    split at h
    · rename_i t' sz' cs hj
      obtain ⟨rfl, hl, hk⟩ := h
      rcases hy.bsl_inv with ⟨b, cap, hb, hcap, rfl⟩ | ⟨hb, rfl, rfl⟩
      · obtain ⟨c, t, hh, hle, hr, rfl, hcs, hcm⟩ := hs.boxrep j _ _ hb hj
        refine ⟨cs, m, _, _, c.toList.take cs.length, hk, rfl, hl, ⟨by simp; omega, fun i x u hx hu => ?_⟩, fun u hu => ?_, fun _ => ⟨_, rfl, fun q u hu => ?_⟩⟩
        · have hi := getElem?_lt hx
          rw [List.getElem?_take, if_pos hi] at hu
          have e1 : c.getD i undef = u := by have : c[i]? = some u := by simpa using hu
                                             simp [Array.getD, (Array.getElem?_eq_some_iff.1 this).1, (Array.getElem?_eq_some_iff.1 this).2]
          rw [← e1]; exact (hr i x hx).1
        · obtain ⟨i, hu⟩ := List.getElem?_of_mem hu
          have hi : i < cs.length := by have := getElem?_lt hu; simp at this; omega
          rw [List.getElem?_take, if_pos hi] at hu
          have e1 : c.getD i undef = u := by have : c[i]? = some u := by simpa using hu
                                             simp [Array.getD, (Array.getElem?_eq_some_iff.1 this).1, (Array.getElem?_eq_some_iff.1 this).2]
          rw [← e1]; exact (hr i _ (List.getElem?_eq_getElem hi)).2
        · have hi : q < cs.length := by have := getElem?_lt hu; simp at this; omega
          rw [List.getElem?_take, if_pos hi] at hu
          rw [Addr.add_lit, Nat.zero_add, cell_of_row w b q c _ (0, 0) hh]; simpa using hu
      · have h0 : cs = [] := hs.boxrep j _ _ hb hj
        subst h0
        exact ⟨[], 0, _, _, [], hk, rfl, hl, ⟨rfl, by simp⟩, by simp, fun h => absurd h (by omega)⟩
    · exact h.no
  · rename_i o ys
    obtain ⟨hsz, hk⟩ := h
    have hr' := hy.list_inv
    cases hr' with
    | list _ _ ad cap sz' b off vs hcap ha hszx hF hc hr ho =>
    by_cases hy0 : ys = []
    · subst hy0
      exact ⟨[], 0, _, _, [], hk, rfl, by simp, ⟨rfl, by simp⟩, by simp, fun h => absurd h (by omega)⟩
    have hszy' : sz' = sz := by
      cases ys with
      | nil => exact absurd rfl hy0
      | cons c r => rw [← hszx c (by simp), hsz c (by simp)]
    subst hszy'
    have hnl : (rowOf sz' ys.length vs).length = ys.length * sz' := by simp [rowOf]
    have hgety : ∀ i j, i < ys.length → j < sz' → ∃ e c, ys[i]? = some e ∧ e[j]? = some c := fun i j hi hj => by
      have h1 : (ys[i]'hi).length = sz' := hsz _ (List.getElem_mem hi)
      exact ⟨ys[i], ys[i][j]'(by omega), by simp, by simp⟩
    have hnget : ∀ q u, (rowOf sz' ys.length vs)[q]? = some u → ∃ i j, i < ys.length ∧ j < sz' ∧ q = i * sz' + j ∧ u = vs i j := fun q u hq => by
      have hlt := getElem?_lt hq
      rw [hnl] at hlt
      have h1 : q % sz' < sz' := Nat.mod_lt _ hpos
      have h2 : q / sz' < ys.length := (Nat.div_lt_iff_lt_mul hpos).2 hlt
      have h3 : q = q / sz' * sz' + q % sz' := by rw [Nat.mul_comm]; exact (Nat.div_add_mod _ _).symm
      refine ⟨q / sz', q % sz', h2, h1, h3, ?_⟩
      have h4 := rowOf_get (vs := vs) h2 h1
      rw [← h3, hq] at h4
      exact Option.some.inj h4
    refine ⟨ys.flatten, ys.length, ad, cap, rowOf sz' ys.length vs, hk, rfl, length_flatten' sz' ys hsz, ⟨by rw [hnl, length_flatten' sz' ys hsz], fun q x u hx hu => ?_⟩, fun u hu => ?_, fun _ => ⟨_, ha hy0, fun q u hu => ?_⟩⟩
    · obtain ⟨i, j, h1, h2, rfl, rfl⟩ := hnget q u hu
      obtain ⟨e', c', he, hc'⟩ := hgety i j h1 h2
      rw [flatten_get sz' ys i j e' c' hsz he hc'] at hx
      rw [← Option.some.inj hx]
      exact (hr i e' j c' he hc').later (Later.refl _ _ _ _) (by simp)
    · obtain ⟨q, hq⟩ := List.getElem?_of_mem hu
      obtain ⟨i, j, h1, h2, rfl, rfl⟩ := hnget q u hq
      obtain ⟨e', c', he, hc'⟩ := hgety i j h1 h2
      exact (hc i e' j c' he hc').2
    · obtain ⟨i, j, h1, h2, rfl, rfl⟩ := hnget q u hu
      obtain ⟨e', c', he, hc'⟩ := hgety i j h1 h2
      rw [Addr.add_lit, ← Nat.add_assoc]
      exact (hc i e' j c' he hc').1
  · rw [hy.val_inv]
    exact ⟨[], 0, _, _, [], h, rfl, by simp, ⟨rfl, by simp⟩, by simp, fun h => absurd h (by omega)⟩
  · exact h.no

/-- appending to a row that is a box -/
theorem append_box (hs : Sim mo n w0 F0 box0 U g ⟨e, bx, f⟩ a w) {T ty el : TypeId} {ti : TypeInfo} {z : Value} (ht : P.underlying T = some (.slice el)) (hi : P.info? el = some ti) (hz : ti.zero = some z) (hzs : z.cells.size = ti.size) (hpos : 0 < ti.size)
    {j m : Nat} {xs : List AV} {v : Value} (hx : Rep w0.heap.size w g.F g.tok f g.box (.bsl j m) v) (hj : bx[j]? = some (.cells (.row el ti.size) xs)) (hxl : xs.length = m * ti.size)
    {cs : List AV} {q capy : Nat} {ay : Option Addr} {news : List Value} (hcl : cs.length = q * ti.size) (hB : Both (Rep w0.heap.size w g.F g.tok f g.box) cs news) (h1 : ∀ u ∈ news, u.oneCell' = true)
    (hc : 0 < q → ∃ ad : Addr, ay = some ad ∧ ∀ q u, news[q]? = some u → w.cell? (ad.add q) = some u) (h40 : m + q ≤ 1099511627776) (hbytes : (m + q) * ti.bytes ≤ 140737488355328) :
    ∃ v' w' g', (Builtin.append_ #[T, T] ty #[v, .slice ay q capy]).run P w = .ok v' w' ∧
      Sim mo n w0 F0 box0 U g' ⟨e, bx.set j .dead ++ [.cells (.row el ti.size) (xs ++ cs)], f⟩ a w' ∧ Rep w0.heap.size w' g'.F g'.tok f g'.box (.bsl bx.length (m + q)) v' := by
  have hbl := hs.boxlen
  simp only at hbl
  have hnl : news.length = q * ti.size := by rw [← hB.1, hcl]
  have hlive : live bx j := fun h => by rw [hj] at h; cases h
  have hjl := getElem?_lt hj
  -- growing into a new block
  have grow : ∀ {vals : List Value} {rest : List Value} {cap' : Nat} {v : Value}, Both (Rep w0.heap.size w g.F g.tok f g.box) xs vals → (∀ u ∈ vals, u.oneCell' = true) →
      (Builtin.append_ #[T, T] ty #[v, .slice ay q capy]).run P w = .ok (.slice (some ⟨w.heap.size, 0, none⟩) (m + q) cap') (w.drew.alloc (.cells (vals ++ news ++ rest).toArray el)) → m + q ≤ cap' → cap' ≤ maxLen → (vals ++ news ++ rest).length = cap' * ti.size →
      ∃ v' w' g', (Builtin.append_ #[T, T] ty #[v, .slice ay q capy]).run P w = .ok v' w' ∧
        Sim mo n w0 F0 box0 U g' ⟨e, bx.set j .dead ++ [.cells (.row el ti.size) (xs ++ cs)], f⟩ a w' ∧ Rep w0.heap.size w' g'.F g'.tok f g'.box (.bsl bx.length (m + q)) v' := by
    intro vals rest cap' v hBv hv1 hr hc1 hc2 hc3
    have hs1 := (hs.world (w' := w.drew) (Bel.refl _ _).drew).kill j
    have L0 := later_alloc hs1 (.cells (vals ++ news ++ rest).toArray el)
    have hext : ∀ (j : Nat) d, g.box[j]? = some d → (g.box ++ [BId.blk w.drew.heap.size cap'])[j]? = some d := fun j d h => by rw [List.getElem?_append_left (getElem?_lt h)]; exact h
    have hBB := both_append hBv hB
    have L1 : Later w g.F g.tok f w.drew g.F g.tok f := later_below hs (Bel.refl (mo := mo) _ _).drew
    have S := hs1.newBox (.cells (vals ++ news ++ rest).toArray el) cap' (.cells (.row el ti.size) (xs ++ cs))
      (boxOk_row (heap_alloc_new w.drew _) rfl ⟨hBB.1, fun i x u hx hu => ((hBB.2 i x u hx hu).later L1 (fun _ _ h => h)).later L0 hext⟩ (fun u hu => by
        rcases List.mem_append.1 hu with h | h
        · exact hv1 u h
        · exact h1 u h) hc3 hc2)
    exact ⟨_, _, _, hr, S, .bsl _ _ w.heap.size cap' (by simp only [← hbl]; simp) hc1⟩
  rcases hx.bsl_inv with ⟨b, cap, hb, hcap, rfl⟩ | ⟨hb, rfl, rfl⟩
  · obtain ⟨c, t, hh, hle, hr, rfl, hcs, hcm⟩ := hs.boxrep j _ _ hb hj
    have hvl : (c.toList.take (m * ti.size)).length = m * ti.size := by simp; omega
    have hget : ∀ i, i < xs.length → (c.toList.take (m * ti.size))[i]? = some (c.getD i undef) := fun i hi => by
      have : i < c.size := by omega
      rw [List.getElem?_take, if_pos (by omega)]; simp [Array.getD, this]
    have hBv : Both (Rep w0.heap.size w g.F g.tok f g.box) xs (c.toList.take (m * ti.size)) := ⟨by rw [hvl, hxl], fun i x u hx hu => by
      rw [hget i (getElem?_lt hx)] at hu; cases hu; exact (hr i x hx).1⟩
    have hv1 : ∀ u ∈ c.toList.take (m * ti.size), u.oneCell' = true := fun u hu => by
      obtain ⟨i, hu⟩ := List.getElem?_of_mem hu
      have hi : i < xs.length := by have := getElem?_lt hu; rw [hvl] at this; omega
      rw [hget i hi] at hu; cases hu
      exact (hr i _ (List.getElem?_eq_getElem hi)).2
    by_cases hq : q = 0
    · subst hq
      have h0 : cs = [] := List.eq_nil_of_length_eq_zero (by simpa using hcl)
      subst h0
      refine ⟨_, w, _, append_none w ht hi hcap, by rw [List.append_nil]; exact hs.rehome hb hj (by simp), .bsl _ _ b cap (by simp only [← hbl]; simp) hcap⟩
    · obtain ⟨ad, rfl, had⟩ := hc (by omega)
      rcases append_run (P := P) (ty := ty) (c := capy) (B := 0) w ht hi hz hzs (vals := c.toList.take (m * ti.size)) (n := m) (cap := cap) (ad := some ⟨b, 0, none⟩) ⟨hvl, Or.inr ⟨b, cap, c, rfl, Nat.zero_le _, hh, hcap, hcm, hcs, rfl⟩⟩ hnl had h1 (by omega) h40 hbytes with ⟨gb, cur, he, hg, htake, hroom, _, hcs', hrun⟩ | ⟨cap', rest, hrun, hc1, hc2, hc3⟩
      · cases he
        rw [hh] at hg; cases hg
        have hlen : (c.toList.take (m * ti.size) ++ news ++ c.toList.drop (m * ti.size + news.length)).length = cap * ti.size := by
          have : (m + q) * ti.size ≤ cap * ti.size := Nat.mul_le_mul_right _ hroom
          rw [Nat.add_mul] at this
          simp only [List.length_append, hvl, hnl, List.length_drop, Array.length_toList]
          omega
        have hset := setRow_heap w b c (c.toList.take (m * ti.size) ++ news ++ c.toList.drop (m * ti.size + news.length)).toArray _ (0, 0) hh
        have hBB := both_append hBv hB
        have S := hs.turnBox hb hlive (w' := w.setRow b (c.toList.take (m * ti.size) ++ news ++ c.toList.drop (m * ti.size + news.length)).toArray) (x := .cells (.row _ ti.size) (xs ++ cs)) (hxd := by simp)
          ⟨Nat.le_refl _, rfl, rfl, rfl, by simp, fun k hk => setRow_other w b k _ hk⟩
          (fun keep => boxOk_row hset rfl ⟨hBB.1, fun i x u hx hu => keep x u (hBB.2 i x u hx hu)⟩ (fun u hu => by
            rcases List.mem_append.1 hu with h | h
            · exact hv1 u h
            · exact h1 u h) hlen hcm)
        have S' := S.rehome (d := .blk b cap) hb (by rw [List.getElem?_set, if_pos rfl, if_pos hjl]) (by simp)
        rw [List.set_set] at S'
        exact ⟨_, _, _, hrun, S', .bsl _ _ b cap (by show (g.box ++ [BId.blk b cap])[bx.length]? = _; rw [← hbl]; simp) hroom⟩
      · exact grow hBv hv1 hrun hc1 hc2 hc3
  · have h0 : xs = [] := hs.boxrep j _ _ hb hj
    subst h0
    by_cases hq : q = 0
    · subst hq
      have h0 : cs = [] := List.eq_nil_of_length_eq_zero (by simpa using hcl)
      subst h0
      exact ⟨_, w, _, append_none w ht hi (Nat.le_refl _), hs.rehome hb hj (by simp), .bnil _ (by simp only [← hbl]; simp)⟩
    · obtain ⟨ad, rfl, had⟩ := hc (by omega)
      rcases append_run (P := P) (ty := ty) (c := capy) (B := 0) w ht hi hz hzs (vals := []) (n := 0) (cap := 0) (ad := none) (World.ownsRow_nil w _ el ti.size) hnl had h1 (by omega) h40 hbytes with ⟨gb, cur, he, _⟩ | ⟨cap', rest, hrun, hc1, hc2, hc3⟩
      · cases he
      · exact grow ⟨rfl, by simp⟩ (by simp) hrun hc1 hc2 hc3

theorem leads_appendH (hs : Sim mo n w0 F0 box0 U g ⟨e, bx, f⟩ a w) {t : TypeId} {x y : Operand} {k : AV → List ABox → Fr → Prop} (ho : o.op = .call { callee := .builtin .append, args := #[x, y], argTypes := #[t, t] })
    (hg : goodElem P t = true) {m0 H : Nat} (hH : H ≤ w.heap.size) (hT : ∀ (k b : Nat), m0 ≤ k → g.tok[k]? = some (some b) → H ≤ b)
    (h : evG true e x fun x => evG true e y fun y => appH m0 (elemTy P t) (P.cellsOf (elemTy P t)) (bytesOf P (elemTy P t)) x y bx f k) (next : Act → World → Prop) (Q : Exit → Act → World → Prop)
    (hn : ∀ g' bx' f' x v w', Sim mo n w0 F0 box0 U g' ⟨e, bx', f'⟩ a w' → RepT w0.heap.size w' g'.F g'.tok f' g'.box x v → k x bx' f' → Bel mo H w w' → TokNew w g.tok g'.tok → next (a.put o.dst v) w') : o.wp P a w next Q := by
  obtain ⟨el, ti, z, hu, hi, hz, hzs, hpos, h64, hel, hcz⟩ := goodElem_inv hg
  have hby : bytesOf P el = ti.bytes := by simp [bytesOf, hi]
  rw [hel, hcz, hby] at h
  obtain ⟨xv, h1, hxv⟩ := evG_sound hs.env h
  clear h
  obtain ⟨yv, h2, hyv⟩ := evG_sound hs.env h1
  clear h1
  have run : ∀ {v u v' : Value} {w' : World}, a.eval x = v → a.eval y = u → (Builtin.append_ #[t, t] o.type #[v, u]).run P w = .ok v' w' → (execOp a.eval o).run P w = .ok (.value v') w' := fun {v u v' w'} hv hy hr => by
    simp only [execOp, ho, resolve, invoke, builtin, Sem.run_bind, Sem.run_pure, Result.andThen_ok, List.map_toArray, List.map_cons, List.map_nil, hv, hy, hr]
  unfold appH at h2
  split at h2
  · rename_i j xs
    obtain ⟨hm, h2⟩ := h2
    unfold appK at h2
    simp only at h2
    obtain ⟨ys, ay, capy, szy, by', offy, vsy, h3, hy, hcapy, hay, hszy, hFy, hcy, hry⟩ := gList_rep h2 hyv
    split at h3
    case h_2 => exact h3.no
    rename_i t' sz' m hj
    obtain ⟨rfl, rfl, rfl, hsz, ⟨hb, h40⟩, hk⟩ := h3
    obtain ⟨v', w', g', hr, hbox, S, hrep, hnew, hbel⟩ := append_list (ty := o.type) hs hu hi hz hzs hpos hxv.list_inv hj hay hszy hcy hry hsz h40 hb
    unfold Oper.wp
    rw [run rfl hy hr]
    exact hn _ _ _ _ _ _ S (.rep _ _ hrep) hk (hbel H hH fun b hb => hT j b hm hb) hnew
  · exact h2.no
theorem leads_append (hs : Sim mo n w0 F0 box0 U g ⟨e, bx, f⟩ a w) {t : TypeId} {x y : Operand} {k : AV → List ABox → Fr → Prop} (ho : o.op = .call { callee := .builtin .append, args := #[x, y], argTypes := #[t, t] })
    (hg : goodElem P t = true)
    (h : evG true e x fun x => evG true e y fun y => appK (elemTy P t) (P.cellsOf (elemTy P t)) (bytesOf P (elemTy P t)) x y bx f k) : Leads mo P n w0 F0 box0 U e a o w k := by
  obtain ⟨el, ti, z, hu, hi, hz, hzs, hpos, h64, hel, hcz⟩ := goodElem_inv hg
  have hby : bytesOf P el = ti.bytes := by simp [bytesOf, hi]
  rw [hel, hcz, hby] at h
  obtain ⟨xv, h1, hxv⟩ := evG_sound hs.env h
  clear h
  obtain ⟨yv, h2, hyv⟩ := evG_sound hs.env h1
  clear h1
  have run : ∀ {v u v' : Value} {w' : World}, a.eval x = v → a.eval y = u → (Builtin.append_ #[t, t] o.type #[v, u]).run P w = .ok v' w' → (execOp a.eval o).run P w = .ok (.value v') w' := fun {v u v' w'} hv hy hr => by
    simp only [execOp, ho, resolve, invoke, builtin, Sem.run_bind, Sem.run_pure, Result.andThen_ok, List.map_toArray, List.map_cons, List.map_nil, hv, hy, hr]
  -- nil, and what is appended is a list
  have nilList : ∀ {o' : Option Nat} {ys : List (List AV)}, xv = .val (.slice none 0 0) → gList yv (fun ys' => ys' = ys) → (∀ c ∈ ys, c.length = ti.size) → ys.length * ti.bytes ≤ 140737488355328 → ys.length ≤ 1099511627776 →
      k (.list (some f.length) ys) bx (f ++ [(el, ti.size, ys.length)]) → Leads mo P n w0 F0 box0 U e a o w k := by
    intro o' ys hx0 hy0 hsz hb h40 hk
    subst hx0
    obtain ⟨ys', ay, capy, szy, by', offy, vsy, h3, hy, hcapy, hay, hszy, hFy, hcy, hry⟩ := gList_rep hy0 hyv
    subst h3
    have S0 := hs.nilTok (el, ti.size, 0)
    have hlen := hs.toklen
    simp only at hlen
    have hx0 : Rep w0.heap.size w g.F (g.tok ++ [none]) (f ++ [(el, ti.size, 0)]) g.box (.list (some f.length) []) (.slice none 0 0) :=
      .list (some f.length) [] none 0 ti.size 0 0 (fun _ _ => undef) (Nat.le_refl _) (fun h => absurd rfl h) (by simp) (fun h => absurd rfl h) (by simp) (by simp) (fun k hk => by
        cases hk
        exact ⟨el, ti.size, 0, by simp, Nat.le_refl _, fun _ => ⟨rfl, ⟨[], World.ownsRow_nil w _ el ti.size⟩, by rw [← hlen]; simp, by simp⟩⟩)
    have L : Later w g.F g.tok f w g.F (g.tok ++ [none]) (f ++ [(el, ti.size, 0)]) := by
      refine ⟨fun _ _ _ => rfl, fun _ => Nat.le_refl _, fun k t s n hk => ?_⟩
      have hlt := getElem?_lt hk
      exact ⟨n, by rw [List.getElem?_append_left hlt]; exact hk, Nat.le_refl _, fun _ => ⟨by rw [List.getElem?_append_left (by omega)], fun b hb => ⟨rfl, rfl⟩⟩⟩
    obtain ⟨v', w', g', hr, hbox, S, hrep, _⟩ := append_list (ty := o.type) (j := f.length) (xs := []) (ys := ys') S0 hu hi hz hzs hpos hx0 (by simp) hay hszy hcy (fun i e j c hi hj => (hry i e j c hi hj).later L (by simp)) hsz (by simpa using h40) (by simpa using hb)
    have e1 : (f ++ [(el, ti.size, 0)]).set f.length (el, ti.size, ([] : List (List AV)).length + ys'.length) = f ++ [(el, ti.size, ys'.length)] := by simp
    rw [e1] at S hrep
    exact leads_val (run hxv.val_inv hy hr) S (.rep _ _ hrep) hk
  unfold appK at h2
  split at h2
  · rename_i j xs
    obtain ⟨ys, ay, capy, szy, by', offy, vsy, h3, hy, hcapy, hay, hszy, hFy, hcy, hry⟩ := gList_rep h2 hyv
    split at h3
    case h_2 => exact h3.no
    rename_i t' sz' m hj
    obtain ⟨rfl, rfl, rfl, hsz, ⟨hb, h40⟩, hk⟩ := h3
    obtain ⟨v', w', g', hr, hbox, S, hrep, _⟩ := append_list (ty := o.type) hs hu hi hz hzs hpos hxv.list_inv hj hay hszy hcy hry hsz h40 hb
    exact leads_val (run rfl hy hr) S (.rep _ _ hrep) hk
  · split at h2
    · rename_i j m
      obtain ⟨cs, q, ay, capy, news, ⟨⟨hb, h40⟩, hk⟩, hv, hcl, hB, h1, hc⟩ := elems_rep hs h2 hyv hpos
      have S0 := hs.nilBox (.row el ti.size)
      have hbl := hs.boxlen
      simp only at hbl
      have hext : ∀ (j : Nat) d', g.box[j]? = some d' → (g.box ++ [BId.nil])[j]? = some d' := fun j d' h => by rw [List.getElem?_append_left (getElem?_lt h)]; exact h
      obtain ⟨v', w', g', hr, S, hrep⟩ := append_box (ty := o.type) (v := .slice none 0 0) S0 hu hi hz hzs hpos (j := bx.length) (m := 0) (xs := []) (.bnil _ (by simp only [← hbl]; simp)) (by simp) (by simp) (capy := capy) hcl
        ⟨hB.1, fun i x u hx hu => (hB.2 i x u hx hu).later (Later.refl _ _ _ _) hext⟩ h1 hc (by omega) (by rw [Nat.zero_add]; exact hb)
      have e1 : (bx ++ [ABox.cells (.row el ti.size) []]).set bx.length .dead ++ [.cells (.row el ti.size) ([] ++ cs)] = bx ++ [.dead, .cells (.row el ti.size) cs] := by simp
      rw [e1] at S
      rw [Nat.zero_add, List.length_append, List.length_singleton] at hrep
      exact leads_val (run hxv.val_inv hv hr) S (.rep _ _ hrep) hk
    · rename_i o' ys
      obtain ⟨hsz, ⟨hb, h40⟩, hk⟩ := h2
      exact nilList (o' := o') rfl rfl hsz hb h40 hk
    · exact nilList (o' := none) (ys := []) rfl rfl (by simp) (by simp) (by simp) h2
    · exact h2.no
  · rename_i j m
    split at h2
    · rename_i t' sz' xs hj
      obtain ⟨rfl, rfl, hxl, h2⟩ := h2
      obtain ⟨cs, q, ay, capy, news, ⟨⟨hb, h40⟩, hk⟩, hv, hcl, hB, h1, hc⟩ := elems_rep hs h2 hyv hpos
      obtain ⟨v', w', g', hr, S, hrep⟩ := append_box (ty := o.type) hs hu hi hz hzs hpos (hxv.plain (by simp)) hj hxl (capy := capy) hcl hB h1 hc h40 hb
      exact leads_val (run rfl hv hr) S (.rep _ _ hrep) hk
    · exact h2.no
  · exact h2.no
end
end Abs
end Go.Proofs.Ytkbblglbbfdnpaa
namespace Go.Proofs.Ytkbblglbbfdnpaa
namespace Abs
open Go.RowKit

section move
variable {B B' : Nat} {w : World} {F F' : Nat → Nat} {tok tok' : List (Option Nat)} {fr fr' : Fr} {box box' : List BId}

mutual
theorem gv_move : ∀ (x : Tr) (n m : Nat), (∀ (i : Nat) d, i < nb x → box[n + i]? = some d → box'[m + i]? = some d) → ∀ v, Rep B w F tok fr box (gv x n) v → Rep B' w F' tok' fr' box' (gv x m) v
  | .v x, _, _, _, v, h => by rw [gv] at h ⊢; rw [h.val_inv]; exact .val _
  | .s x, _, _, _, v, h => by
    rw [gv] at h ⊢; cases h; exact .str _
  | .l t sz xs, n, m, hi, v, h => by
    rw [gv] at h ⊢
    have h0 : ∀ d, box[n]? = some d → box'[m]? = some d := fun d hd => hi 0 d (by rw [nb]; omega) hd
    generalize xs.length = q at h ⊢
    rcases h.bsl_inv with ⟨b, cap, h1, h2, rfl⟩ | ⟨h1, rfl, rfl⟩
    · exact .bsl m q b cap (h0 _ h1) h2
    · exact .bnil m (h0 _ h1)
  | .a fs, n, m, hi, v, h => by
    rw [gv] at h ⊢
    cases h with
    | agg _ vs hl h1 hr =>
      refine .agg _ vs (by rw [length_gvL] at hl ⊢; exact hl) h1 (fun i c hc => ?_)
      obtain ⟨c0, hc0⟩ : ∃ c0, (gvL fs n)[i]? = some c0 := ⟨_, List.getElem?_eq_getElem (by have := getElem?_lt hc; rw [length_gvL] at this ⊢; exact this)⟩
      obtain ⟨c', e1, e2⟩ := gvL_move fs n m (fun i d hid => hi i d (by rw [nb]; exact hid)) i c0 _ hc0 (hr i c0 hc0)
      rw [hc] at e1; cases e1; exact e2
  | .p fs, n, m, hi, v, h => by
    rw [gv] at h ⊢
    cases h with
    | tup _ vs hl hr =>
      refine .tup _ vs (by rw [length_gvL] at hl ⊢; exact hl) (fun i c hc => ?_)
      obtain ⟨c0, hc0⟩ : ∃ c0, (gvL fs n)[i]? = some c0 := ⟨_, List.getElem?_eq_getElem (by have := getElem?_lt hc; rw [length_gvL] at this ⊢; exact this)⟩
      obtain ⟨c', e1, e2⟩ := gvL_move fs n m (fun i d hid => hi i d (by rw [nb]; exact hid)) i c0 _ hc0 (hr i c0 hc0)
      rw [hc] at e1; cases e1; exact e2
theorem gvL_move : ∀ (xs : List Tr) (n m : Nat), (∀ (i : Nat) d, i < nbL xs → box[n + i]? = some d → box'[m + i]? = some d) → ∀ (i : Nat) c v, (gvL xs n)[i]? = some c → Rep B w F tok fr box c v →
    ∃ c', (gvL xs m)[i]? = some c' ∧ Rep B' w F' tok' fr' box' c' v
  | [], _, _, _, i, c, v, hc, _ => by simp [gvL] at hc
  | x :: xs, n, m, hi, i, c, v, hc, h => by
    cases i with
    | zero =>
      simp only [gvL, List.getElem?_cons_zero, Option.some.injEq] at hc
      subst hc
      exact ⟨_, rfl, gv_move x n m (fun i d hid => hi i d (by rw [nbL]; omega)) v h⟩
    | succ i =>
      simp only [gvL, List.getElem?_cons_succ] at hc ⊢
      exact gvL_move xs _ _ (fun i d hid hd => by
        have := hi (nb x + i) d (by rw [nbL]; omega) (by rw [← Nat.add_assoc]; exact hd)
        rw [Nat.add_assoc]; exact this) i c v hc h
end
theorem gvLL_move (xs : List (List Tr)) (n m : Nat) (hi : ∀ (i : Nat) d, i < nbLL xs → box[n + i]? = some d → box'[m + i]? = some d) (i : Nat) (c : AV) (v : Value) (hc : (gvLL xs n)[i]? = some c) (h : Rep B w F tok fr box c v) :
    ∃ c', (gvLL xs m)[i]? = some c' ∧ Rep B' w F' tok' fr' box' c' v := by
  rw [gvLL_flatten] at hc ⊢
  rw [nbLL_flatten] at hi
  exact gvL_move xs.flatten n m hi i c v hc h

mutual
theorem gb_move : ∀ (x : Tr) (n m : Nat), (∀ (i : Nat) d, i < nb x → (box[n + i]? = some d ↔ box'[m + i]? = some d)) → (∀ (j : Nat) d y, box[n + j]? = some d → (gb x n)[j]? = some y → BoxOk B w F tok fr box d y) →
    ∀ (j : Nat) d y, box'[m + j]? = some d → (gb x m)[j]? = some y → BoxOk B' w F' tok' fr' box' d y
  | .v _, _, _, _, _, j, d, y, _, hy => by simp [gb] at hy
  | .s _, _, _, _, _, j, d, y, _, hy => by simp [gb] at hy
  | .l t sz xs, n, m, hi, h, j, d, y, hd, hy => by
    have hsub : ∀ (i : Nat) d, i < nbLL xs → (box[n + 1 + i]? = some d ↔ box'[m + 1 + i]? = some d) := fun i d hid => by
      have := hi (i + 1) d (by rw [nb]; omega)
      rw [show n + 1 + i = n + (i + 1) by omega, show m + 1 + i = m + (i + 1) by omega]; exact this
    cases j with
    | succ j =>
      refine gbLL_move xs (n + 1) (m + 1) hsub (fun j d y hd hy => h (j + 1) d y (by rw [show n + (j + 1) = n + 1 + j by omega]; exact hd) (by simpa [gb] using hy)) j d y (by rw [show m + 1 + j = m + (j + 1) by omega]; exact hd) (by simpa [gb] using hy)
    | zero =>
      simp only [gb, List.getElem?_cons_zero, Option.some.injEq] at hy
      subst hy
      have h0 := h 0 d _ ((hi 0 d (by rw [nb]; omega)).2 hd) (by rw [gb]; rfl)
      cases d with
      | nil =>
        show gvLL xs (m + 1) = []
        have : gvLL xs (n + 1) = [] := h0
        rw [gvLL_flatten] at this ⊢
        exact List.eq_nil_of_length_eq_zero (by rw [length_gvL]; have := congrArg List.length this; rw [length_gvL] at this; exact this)
      | blk b cap =>
        obtain ⟨c, t', h1, h2, h3, h4⟩ := h0
        have hlen : (gvLL xs (m + 1)).length = (gvLL xs (n + 1)).length := by simp only [gvLL_flatten, length_gvL]
        refine ⟨c, t', h1, by omega, fun i z hz => ?_, h4⟩
        obtain ⟨z0, hz0⟩ : ∃ z0, (gvLL xs (n + 1))[i]? = some z0 := ⟨_, List.getElem?_eq_getElem (by rw [← hlen]; exact getElem?_lt hz)⟩
        obtain ⟨z', e1, e2⟩ := gvLL_move (B' := B') (F' := F') (tok' := tok') (fr' := fr') xs (n + 1) (m + 1) (fun i d hid hd => (hsub i d hid).1 hd) i z0 _ hz0 (h3 i z0 hz0).1
        rw [hz] at e1; cases e1
        exact ⟨e2, (h3 i z0 hz0).2⟩
  | .a fs, n, m, hi, h, j, d, y, hd, hy => gbL_move fs n m (fun i d hid => hi i d (by rw [nb]; exact hid)) (fun j d y hd hy => h j d y hd (by rw [gb]; exact hy)) j d y hd (by rw [gb] at hy; exact hy)
  | .p fs, n, m, hi, h, j, d, y, hd, hy => gbL_move fs n m (fun i d hid => hi i d (by rw [nb]; exact hid)) (fun j d y hd hy => h j d y hd (by rw [gb]; exact hy)) j d y hd (by rw [gb] at hy; exact hy)
theorem gbL_move : ∀ (xs : List Tr) (n m : Nat), (∀ (i : Nat) d, i < nbL xs → (box[n + i]? = some d ↔ box'[m + i]? = some d)) → (∀ (j : Nat) d y, box[n + j]? = some d → (gbL xs n)[j]? = some y → BoxOk B w F tok fr box d y) →
    ∀ (j : Nat) d y, box'[m + j]? = some d → (gbL xs m)[j]? = some y → BoxOk B' w F' tok' fr' box' d y
  | [], _, _, _, _, j, d, y, _, hy => by simp [gbL] at hy
  | x :: xs, n, m, hi, h, j, d, y, hd, hy => by
    rw [gbL, List.getElem?_append, length_gb] at hy
    split at hy
    · exact gb_move x n m (fun i d hid => hi i d (by rw [nbL]; omega)) (fun j d y hd hy => h j d y hd (by rw [gbL, List.getElem?_append_left (getElem?_lt hy)]; exact hy)) j d y hd hy
    · rename_i hj
      refine gbL_move xs (n + nb x) (m + nb x) (fun i d hid => ?_) (fun j d y hd hy => h (nb x + j) d y (by rw [← Nat.add_assoc]; exact hd) (by rw [gbL, List.getElem?_append_right (by rw [length_gb]; omega), length_gb, Nat.add_sub_cancel_left]; exact hy)) (j - nb x) d y (by rw [show m + nb x + (j - nb x) = m + j by omega]; exact hd) hy
      have := hi (nb x + i) d (by rw [nbL]; omega)
      rw [Nat.add_assoc, Nat.add_assoc]; exact this
theorem gbLL_move : ∀ (xs : List (List Tr)) (n m : Nat), (∀ (i : Nat) d, i < nbLL xs → (box[n + i]? = some d ↔ box'[m + i]? = some d)) → (∀ (j : Nat) d y, box[n + j]? = some d → (gbLL xs n)[j]? = some y → BoxOk B w F tok fr box d y) →
    ∀ (j : Nat) d y, box'[m + j]? = some d → (gbLL xs m)[j]? = some y → BoxOk B' w F' tok' fr' box' d y
  | [], _, _, _, _, j, d, y, _, hy => by simp [gbLL] at hy
  | x :: xs, n, m, hi, h, j, d, y, hd, hy => by
    rw [gbLL, List.getElem?_append, length_gbL] at hy
    split at hy
    · exact gbL_move x n m (fun i d hid => hi i d (by rw [nbLL]; omega)) (fun j d y hd hy => h j d y hd (by rw [gbLL, List.getElem?_append_left (getElem?_lt hy)]; exact hy)) j d y hd hy
    · rename_i hj
      refine gbLL_move xs (n + nbL x) (m + nbL x) (fun i d hid => ?_) (fun j d y hd hy => h (nbL x + j) d y (by rw [← Nat.add_assoc]; exact hd) (by rw [gbLL, List.getElem?_append_right (by rw [length_gbL]; omega), length_gbL, Nat.add_sub_cancel_left]; exact hy)) (j - nbL x) d y (by rw [show m + nbL x + (j - nbL x) = m + j by omega]; exact hd) hy
      have := hi (nbL x + i) d (by rw [nbLL]; omega)
      rw [Nat.add_assoc, Nat.add_assoc]; exact this
end
end move

theorem flatten_oldLL : ∀ xs, (oldLL xs).flatten = oldL xs.flatten
  | [] => rfl
  | x :: xs => by
    rw [oldLL, List.flatten_cons, List.flatten_cons, flatten_oldLL xs, oldL_eq, oldL_eq, oldL_eq, List.map_append]

theorem okTL_all : ∀ xs, okTL xs = xs.all okT
  | [] => rfl
  | x :: xs => by rw [okTL, okTL_all xs]; rfl
theorem okTLL_flatten : ∀ xs, okTLL xs = okTL xs.flatten
  | [] => rfl
  | x :: xs => by rw [okTLL, okTLL_flatten xs, List.flatten_cons, okTL_all, okTL_all, okTL_all, List.all_append]

/-- A tree of its own, read. -/
theorem OwnL.rep {w : World} (B : Nat) (F : Nat → Nat) (tok : List (Option Nat)) (fr : Fr) {xs : List Tr} {vs : List Value} {ds : List Nat} (h : OwnL w xs vs ds)
    (hF : ∀ d ∈ ds, ∀ c t z, w.heap[d]? = some (.cells c t z) → c.size ≤ F d) (hok : okTL xs = true) : ∀ (i : Nat) x v, xs[i]? = some x → vs[i]? = some v → ∀ box, Rep B w F tok fr box (old x) v := by
  have step : ∀ {x : Tr} {v : Value} {xs : List Tr} {vs : List Value}, (∀ box, Rep B w F tok fr box (old x) v) → (∀ (i : Nat) x v, xs[i]? = some x → vs[i]? = some v → ∀ box, Rep B w F tok fr box (old x) v) →
      ∀ (i : Nat) y u, (x :: xs)[i]? = some y → (v :: vs)[i]? = some u → ∀ box, Rep B w F tok fr box (old y) u := fun h1 h2 i y u hy hu => by
    cases i with
    | zero => simp at hy hu; subst hy; subst hu; exact h1
    | succ i => exact h2 i y u (by simpa using hy) (by simpa using hu)
  induction h with
  | nil => intro i x v h; simp at h
  | v x hp _ ih => rw [okTL, Bool.and_eq_true] at hok; exact step (fun _ => .val _) (ih hF hok.2)
  | s x _ ih => rw [okTL, Bool.and_eq_true] at hok; exact step (fun _ => .str _) (ih hF hok.2)
  | none t sz _ ih =>
    rw [okTL, Bool.and_eq_true] at hok
    exact step (fun _ => .list Option.none [] Option.none 0 0 0 0 (fun _ _ => undef) (Nat.le_refl _) (fun h => absurd rfl h) (by simp) (fun h => absurd rfl h) (by simp) (by simp) (fun k hk => by cases hk)) (ih hF hok.2)
  | l t sz es b cap c us hb hc hl hm hs hu h1 he _ ih1 ih2 =>
    rw [okTL, Bool.and_eq_true] at hok
    refine step (fun box => ?_) (ih2 (fun d hd => hF d (by simp [hd])) hok.2)
    have ho := hok.1
    rw [okT, Bool.and_eq_true, okTLL_flatten] at ho
    have g := ih1 (fun d hd => hF d (by simp [hd])) ho.2
    have hlen : (oldLL es).length = es.length := by rw [oldLL_eq]; simp
    have hsz : ∀ e ∈ oldLL es, e.length = sz := fun e he => by
      rw [oldLL_eq] at he
      obtain ⟨e', he', rfl⟩ := List.mem_map.1 he
      rw [List.length_map]; exact hs e' he'
    have hcs : es.length * sz ≤ c.size := by rw [hc]; exact Nat.mul_le_mul_right _ hl
    have hul : us.length = es.length * sz := by rw [← hu]; simp; omega
    have key : ∀ (i : Nat) e (j : Nat) y, (oldLL es)[i]? = some e → e[j]? = some y → i * sz + j < c.size ∧ us[i * sz + j]? = some (c.getD (i * sz + j) undef) ∧ Rep B w F tok fr [] y (c.getD (i * sz + j) undef) := fun i e j y hi hj => by
      have hf := flatten_get sz (oldLL es) i j e y hsz hi hj
      rw [flatten_oldLL, oldL_eq, List.getElem?_map] at hf
      obtain ⟨x, hx, rfl⟩ := Option.map_eq_some_iff.1 hf
      have hlt : i * sz + j < us.length := by rw [← he.length]; exact getElem?_lt hx
      obtain ⟨g1, g2⟩ := getD_take hu hlt
      exact ⟨g2, g1, g _ x _ hx g1 []⟩
    show Rep B w F tok fr box (.list Option.none (oldLL es)) (.slice (some ⟨b, 0, Option.none⟩) es.length cap)
    rw [← hlen]
    refine .list Option.none (oldLL es) _ cap sz b 0 (fun i j => c.getD (i * sz + j) undef) (by omega) (fun _ => rfl) hsz (fun _ => ?_) (fun i e j y hi hj => ?_) (fun i e j y hi hj => (key i e j y hi hj).2.2) (fun k hk => by cases hk)
    · have := hF b (by simp) c t _ hb
      rw [hlen]; omega
    · obtain ⟨k1, k2, _⟩ := key i e j y hi hj
      exact ⟨by rw [Nat.zero_add]; simp [World.cell?, hb, k1, Array.getD], h1 _ (List.mem_of_getElem? k2)⟩
  | a fs us h1 he _ ih1 ih2 =>
    rw [okTL, Bool.and_eq_true] at hok
    refine step (fun box => ?_) (ih2 (fun d hd => hF d (by simp [hd])) hok.2)
    have g := ih1 (fun d hd => hF d (by simp [hd])) (by simpa [okT] using hok.1)
    have hl := he.length
    have hg : ∀ i, i < us.size → us.toList[i]? = some (us.getD i undef) := fun i hi => by simp [Array.getD, hi]
    refine .agg _ us (by rw [oldL_eq]; simpa using hl) (fun i hi => h1 _ (List.mem_of_getElem? (hg i hi))) (fun i c hc => ?_)
    rw [oldL_eq, List.getElem?_map] at hc
    obtain ⟨x, hx, rfl⟩ := Option.map_eq_some_iff.1 hc
    exact g i x _ hx (hg i (by have := getElem?_lt hx; simp at hl; omega)) box
  | p fs us he _ ih1 ih2 =>
    rw [okTL, Bool.and_eq_true] at hok
    refine step (fun box => ?_) (ih2 (fun d hd => hF d (by simp [hd])) hok.2)
    have g := ih1 (fun d hd => hF d (by simp [hd])) (by simpa [okT] using hok.1)
    have hl := he.length
    have hg : ∀ i, i < us.size → us.toList[i]? = some (us.getD i undef) := fun i hi => by simp [Array.getD, hi]
    refine .tup _ us (by rw [oldL_eq]; simpa using hl) (fun i c hc => ?_)
    rw [oldL_eq, List.getElem?_map] at hc
    obtain ⟨x, hx, rfl⟩ := Option.map_eq_some_iff.1 hc
    exact g i x _ hx (hg i (by have := getElem?_lt hx; simp at hl; omega)) box
end Abs
end Go.Proofs.Ytkbblglbbfdnpaa
