/-
  append, on abstract values.
-/
import Derived.Test.YtamcaplpgmloiaaSound8
namespace Go.Proofs.Ytamcaplpgmloiaa
namespace Abs
variable {mo : Bool}
open Go.RowKit

section
variable {P : Program} {n : Nat} {w0 : World} {F0 : Nat → Nat} {box0 : List BId} {g : G} {e : Env} {bx : List ABox} {f : Fr} {a : Act} {w : World}

theorem divmod {i j sz : Nat} (hj : j < sz) : (i * sz + j) / sz = i ∧ (i * sz + j) % sz = j := by
  have hp : 0 < sz := by omega
  constructor
  · rw [Nat.mul_comm, Nat.mul_add_div hp, Nat.div_eq_of_lt hj]; simp
  · rw [Nat.mul_comm, Nat.mul_add_mod, Nat.mod_eq_of_lt hj]

/-- the values of a slice's cells, one behind the other -/
def rowOf (sz m : Nat) (vs : Nat → Nat → Value) : List Value := (List.range (m * sz)).map fun q => vs (q / sz) (q % sz)

theorem rowOf_get {sz m i j : Nat} {vs : Nat → Nat → Value} (hi : i < m) (hj : j < sz) : (rowOf sz m vs)[i * sz + j]? = some (vs i j) := by
  have hlt : i * sz + j < m * sz := by have := idx_lt (off := 0) hi hj (Nat.le_of_eq (Nat.zero_add (m * sz))); omega
  simp [rowOf, hlt, (divmod hj).1, (divmod hj).2]

theorem append_list (hs : Sim mo n w0 F0 box0 g ⟨e, bx, f⟩ a w) {T ty el : TypeId} {ti : TypeInfo} {z : Value} (ht : P.underlying T = some (.slice el)) (hi : P.info? el = some ti) (hz : ti.zero = some z) (hzs : z.cells.size = ti.size) (hpos : 0 < ti.size)
    {j : Nat} {xs ys : List (List AV)} {v : Value} (hx : Rep w0.heap.size w g.F g.tok f g.box (.list (some j) xs) v) (hj : f[j]? = some (el, ti.size, xs.length))
    {ay : Option Addr} {capy szy by' offy : Nat} {vsy : Nat → Nat → Value} (hay : ys ≠ [] → ay = some ⟨by', offy, none⟩) (hszy : ∀ e ∈ ys, e.length = szy)
    (hcy : ∀ i e j c, ys[i]? = some e → e[j]? = some c → w.cell? ⟨by', offy + i * szy + j, none⟩ = some (vsy i j) ∧ (vsy i j).oneCell' = true)
    (hry : ∀ i e j c, ys[i]? = some e → e[j]? = some c → Rep w0.heap.size w g.F g.tok f [] c (vsy i j))
    (hsz : ∀ c ∈ ys, c.length = ti.size) (h40 : xs.length + ys.length ≤ 1099511627776) (hbytes : (xs.length + ys.length) * ti.bytes ≤ 140737488355328) :
    ∃ v' w' g', (Builtin.append_ #[T, T] ty #[v, .slice ay ys.length capy]).run P w = .ok v' w' ∧ g'.box = g.box ∧
      Sim mo n w0 F0 box0 g' ⟨e, bx, f.set j (el, ti.size, xs.length + ys.length)⟩ a w' ∧ Rep w0.heap.size w' g'.F g'.tok (f.set j (el, ti.size, xs.length + ys.length)) g'.box (.list (some j) (xs ++ ys)) v' := by
  cases hx with
  | list _ _ ad cap sz b off vs hcap ha hszx hF hc hr ho =>
  obtain ⟨t', s', n', hfr, hle, hown⟩ := ho j rfl
  rw [hj] at hfr; cases hfr
  obtain ⟨rfl, ⟨vals, hv⟩, htok, hFb⟩ := hown rfl
  by_cases hy0 : ys = []
  · subst hy0
    have e1 : f.set j (el, ti.size, xs.length + ([] : List (List AV)).length) = f := by
      apply List.ext_getElem?
      intro i
      rw [List.getElem?_set]
      split
      · rename_i h; subst h; rw [if_pos (getElem?_lt hj), hj]; rfl
      · rfl
    refine ⟨_, w, g, append_none w ht hi hcap, rfl, ?_, ?_⟩
    · rw [e1]; exact hs
    · rw [e1, List.append_nil]
      exact .list (some j) xs ad cap ti.size b off vs hcap ha hszx hF hc hr ho
  · obtain rfl := hay hy0
    have hm : 0 < ys.length := List.length_pos_iff.2 hy0
    have hszy' : szy = ti.size := by
      cases ys with
      | nil => exact absurd rfl hy0
      | cons c r => rw [← hszy c (by simp), hsz c (by simp)]
    subst hszy'
    have hgety : ∀ i j, i < ys.length → j < ti.size → ∃ e c, ys[i]? = some e ∧ e[j]? = some c := fun i j hi hj => by
      have h1 : (ys[i]'hi).length = ti.size := hsz _ (List.getElem_mem hi)
      exact ⟨ys[i], ys[i][j]'(by omega), by simp, by simp⟩
    have hnl : (rowOf ti.size ys.length vsy).length = ys.length * ti.size := by simp [rowOf]
    have hnget : ∀ q u, (rowOf ti.size ys.length vsy)[q]? = some u → ∃ i j, i < ys.length ∧ j < ti.size ∧ q = i * ti.size + j ∧ u = vsy i j := fun q u hq => by
      have hlt := getElem?_lt hq
      rw [hnl] at hlt
      have h1 : q % ti.size < ti.size := Nat.mod_lt _ hpos
      have h2 : q / ti.size < ys.length := (Nat.div_lt_iff_lt_mul hpos).2 hlt
      have h3 : q = q / ti.size * ti.size + q % ti.size := by rw [Nat.mul_comm]; exact (Nat.div_add_mod _ _).symm
      refine ⟨q / ti.size, q % ti.size, h2, h1, h3, ?_⟩
      have h4 := rowOf_get (vs := vsy) h2 h1
      rw [← h3, hq] at h4
      exact Option.some.inj h4
    have hnews : ∀ q u, (rowOf ti.size ys.length vsy)[q]? = some u → w.cell? ((⟨by', offy, none⟩ : Addr).add q) = some u := fun q u hq => by
      obtain ⟨i, k, h1, h2, rfl, rfl⟩ := hnget q u hq
      obtain ⟨e', c', he, hc'⟩ := hgety i k h1 h2
      rw [Addr.add_lit, ← Nat.add_assoc]
      exact (hcy i e' k c' he hc').1
    have hone : ∀ u ∈ rowOf ti.size ys.length vsy, u.oneCell' = true := fun u hu => by
      obtain ⟨q, hq⟩ := List.getElem?_of_mem hu
      obtain ⟨i, k, h1, h2, rfl, rfl⟩ := hnget q u hq
      obtain ⟨e', c', he, hc'⟩ := hgety i k h1 h2
      exact (hcy i e' k c' he hc').2
    have hvl := hv.1
    -- what the new slice reads, out of its block
    have build : ∀ (w' : World) (F' : Nat → Nat) (tok' : List (Option Nat)) (b' cap' : Nat) (arr : List Value),
        Later w g.F g.tok f w' F' tok' (f.set j (el, ti.size, xs.length + ys.length)) →
        w'.heap[b']? = some (.cells (vals ++ rowOf ti.size ys.length vsy ++ arr).toArray el (0, 0)) → xs.length + ys.length ≤ cap' → cap' ≤ maxLen → (vals ++ rowOf ti.size ys.length vsy ++ arr).length = cap' * ti.size →
        F' b' = (xs.length + ys.length) * ti.size → tok'[j]? = some (some b') → w0.heap.size ≤ b' →
        Rep w0.heap.size w' F' tok' (f.set j (el, ti.size, xs.length + ys.length)) g.box (.list (some j) (xs ++ ys)) (.slice (some ⟨b', 0, none⟩) (xs.length + ys.length) cap') := by
      intro w' F' tok' b' cap' arr L hh hc1 hc2 hlen hF' ht' hB'
      have hcell : ∀ q, w'.cell? ⟨b', q, none⟩ = (vals ++ rowOf ti.size ys.length vsy ++ arr)[q]? := fun q => by simp [World.cell?, hh]
      have hlenxy : (xs ++ ys).length = xs.length + ys.length := List.length_append
      suffices h : Rep w0.heap.size w' F' tok' (f.set j (el, ti.size, xs.length + ys.length)) g.box (.list (some j) (xs ++ ys)) (.slice (some ⟨b', 0, none⟩) (xs ++ ys).length cap') by
        rw [hlenxy] at h; exact h
      refine .list (some j) (xs ++ ys) _ cap' ti.size b' 0 (fun i k => if i < xs.length then vs i k else vsy (i - xs.length) k) (by omega) (fun _ => rfl) (fun e he => ?_) (fun _ => by rw [hF', hlenxy]; omega) (fun i e' k c hi' hk => ?_) (fun i e' k c hi' hk => ?_) (fun k hk => ?_)
      · rcases List.mem_append.1 he with h | h
        · exact hszx e h
        · exact hsz e h
      · rw [List.getElem?_append] at hi'
        split at hi'
        · rename_i hlt
          obtain ⟨h1, h2⟩ := hc i e' k c hi' hk
          have hkl : k < ti.size := by have := getElem?_lt hk; rw [hszx e' (List.mem_of_getElem? hi')] at this; exact this
          have hq : i * ti.size + k < vals.length := by rw [hvl]; have := idx_lt (off := 0) hlt hkl (Nat.le_of_eq (Nat.zero_add _)); omega
          refine ⟨?_, by simp only [if_pos hlt]; exact h2⟩
          rw [hcell, Nat.zero_add, List.append_assoc, List.getElem?_append_left hq]
          simp only [if_pos hlt]
          have hne : xs ≠ [] := by rintro rfl; simp at hlt
          have hab := ha hne
          subst hab
          rcases hv.2 with ⟨h, _⟩ | ⟨g0, cap0, cur, h, _, hg0, _, _, _, htake⟩
          · cases h
          · cases h
            rw [cell_of_row w b _ cur el (0, 0) hg0] at h1
            have h3 : cur.toList[i * ti.size + k]? = some (vs i k) := by
              have : cur[0 + i * ti.size + k]? = some (vs i k) := h1
              rw [Nat.zero_add] at this; simpa using this
            rw [← htake, List.getElem?_take, if_pos (by rw [hvl] at hq; exact hq)]
            exact h3
        · rename_i hge
          obtain ⟨h1, h2⟩ := hcy _ e' k c hi' hk
          have hkl : k < ti.size := by have := getElem?_lt hk; rw [hsz e' (List.mem_of_getElem? hi')] at this; exact this
          have hil := getElem?_lt hi'
          refine ⟨?_, by simp only [if_neg hge]; exact h2⟩
          have e2 : 0 + i * ti.size + k = vals.length + ((i - xs.length) * ti.size + k) := by
            rw [hvl, Nat.zero_add, ← Nat.add_assoc, ← Nat.add_mul]; congr 2; omega
          have hq : (i - xs.length) * ti.size + k < (rowOf ti.size ys.length vsy).length := by rw [hnl]; have := idx_lt (off := 0) hil hkl (Nat.le_of_eq (Nat.zero_add _)); omega
          rw [hcell, e2, List.append_assoc, List.getElem?_append_right (by omega), Nat.add_sub_cancel_left, List.getElem?_append_left hq, rowOf_get hil hkl]
          simp only [if_neg hge]
      · rw [List.getElem?_append] at hi'
        split at hi'
        · rename_i hlt; simp only [if_pos hlt]; exact (hr i e' k c hi' hk).later L (by simp)
        · rename_i hge; simp only [if_neg hge]; exact (hry _ e' k c hi' hk).later L (by simp)
      · cases hk
        refine ⟨el, ti.size, xs.length + ys.length, by simp [getElem?_lt hj], by rw [hlenxy]; exact Nat.le_refl _, fun _ => ⟨rfl, ⟨vals ++ rowOf ti.size ys.length vsy, ?_, Or.inr ⟨b', cap', _, rfl, hB', hh, by omega, hc2, by simpa using hlen, ?_⟩⟩, ht', fun b'' h => ?_⟩⟩
        · simp only [List.length_append, hvl, hnl, Nat.add_mul]
        · have : (xs ++ ys).length * ti.size = (vals ++ rowOf ti.size ys.length vsy).length := by simp only [List.length_append, hvl, hnl, Nat.add_mul]
          rw [this]; exact List.take_left
        · cases h; rw [hF', hlenxy]
    rcases append_run (P := P) (ty := ty) (c := capy) w ht hi hz hzs hv hnl hnews hone hm h40 hbytes with ⟨gb, cur, rfl, hg, htake, hroom, hcm, hcs, hrun⟩ | ⟨cap', rest, hrun, hc1, hc2, hc3⟩
    · have hfb := hFb gb rfl
      have hsplit : ∀ i, i < xs.length * ti.size → (vals ++ rowOf ti.size ys.length vsy ++ cur.toList.drop (xs.length * ti.size + (rowOf ti.size ys.length vsy).length))[i]? = cur[i]? := fun i hi' => by
        rw [List.append_assoc, List.getElem?_append_left (by rw [hvl]; exact hi'), htake, List.getElem?_take, if_pos hi']; simp
      have hset := setRow_heap w gb cur (vals ++ rowOf ti.size ys.length vsy ++ cur.toList.drop (xs.length * ti.size + (rowOf ti.size ys.length vsy).length)).toArray el (0, 0) hg
      have hgw : gb < w.heap.size := (hs.tokin j gb htok).2
      obtain ⟨L, S⟩ := Sim.appendTok (b := gb) (m' := xs.length + ys.length) (w' := w.setRow gb (vals ++ rowOf ti.size ys.length vsy ++ cur.toList.drop (xs.length * ti.size + (rowOf ti.size ys.length vsy).length)).toArray) hs hj (by omega) (Nat.le_refl _)
        ⟨rfl, rfl, rfl, by simp, fun c _ hcb => setRow_other w gb c _ hcb⟩
        (.inl ⟨htok, hfb, fun i hi' => by rw [cell_of_row w gb i cur el (0, 0) hg, cell_of_row _ gb i _ el (0, 0) hset]; simpa using hsplit i hi'⟩) (by simpa using hgw)
      refine ⟨_, _, _, hrun, ?_, S, ?_⟩
      · rfl
      refine build _ _ _ gb cap _ L hset hroom hcm ?_ (by simp [setF]) (by rw [List.getElem?_set_self]; have := hs.toklen; simp only at this; have := getElem?_lt hj; omega) (hs.tokin j gb htok).1
      simp only [List.length_append, hvl, hnl, List.length_drop, Array.length_toList, hcs]
      have : (xs.length + ys.length) * ti.size ≤ cap * ti.size := Nat.mul_le_mul_right _ hroom
      rw [Nat.add_mul] at this
      omega
    · have hs' := hs.world (w' := w.drew) (Bel.refl _ _).drew
      have hh : (w.drew.alloc (.cells (vals ++ rowOf ti.size ys.length vsy ++ rest).toArray el)).heap[w.heap.size]? = some (.cells (vals ++ rowOf ti.size ys.length vsy ++ rest).toArray el (0, 0)) := heap_alloc_new w.drew _
      obtain ⟨L, S⟩ := Sim.appendTok (b := w.heap.size) (m' := xs.length + ys.length) (w' := w.drew.alloc (.cells (vals ++ rowOf ti.size ys.length vsy ++ rest).toArray el)) hs hj (by omega) (Nat.le_succ _)
        ⟨rfl, rfl, rfl, by simp, fun c hcw _ => Below.heap_alloc w.drew _ c hcw⟩ (.inr ⟨rfl, by simp⟩) (by simp)
      refine ⟨_, _, _, hrun, ?_, S, ?_⟩
      · rfl
      exact build _ _ _ w.heap.size cap' rest L hh hc1 hc2 hc3 (by simp [setF]) (by rw [List.getElem?_set_self]; have := hs.toklen; simp only at this; have := getElem?_lt hj; omega) hs.below.size
end
end Abs
end Go.Proofs.Ytamcaplpgmloiaa
