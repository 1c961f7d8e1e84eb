/-
  Writing into the call's own variables, and appending to its own slices.
-/
import Derived.Test.YtamcaplpgmloiaaSound7
namespace Go.Proofs.Ytamcaplpgmloiaa
namespace Abs
variable {mo : Bool}
open Go.RowKit

section
variable {n : Nat} {w0 : World} {F0 : Nat → Nat} {box0 : List BId} {g : G} {e : Env} {bx : List ABox} {f : Fr} {a : Act} {w : World}

/-- as w, but for block b -/
structure But (b : Nat) (w w' : World) : Prop where
  drawn : w.drawn ≤ w'.drawn
  os : w'.os = w.os
  tape : w'.tape = w.tape
  output : w'.output = w.output
  size : w'.heap.size = w.heap.size
  block : ∀ k, k ≠ b → w'.heap[k]? = w.heap[k]?

theorem But.cell {b : Nat} {w w' : World} (h : But b w w') {p : Addr} (hp : p.block ≠ b) : w'.cell? p = w.cell? p := World.cell?_of_block (w := w) (h.block p.block hp)
theorem But.below {b B : Nat} {w w' : World} (h : But b w w') (hb : B ≤ b) : Bel mo B w w' := ⟨⟨h.os, h.tape, h.output, by rw [h.size]; exact Nat.le_refl _, fun k hk => h.block k (by omega)⟩, fun _ => h.drawn⟩

theorem But.keep {b : Nat} {w0 w w' : World} {box0 : List BId} (hk : Keep mo box0 w0 w) (h : But b w w') (hb : w0.heap.size ≤ b ∨ ∃ i c : Nat, box0[i]? = some (.blk b c)) : Keep mo box0 w0 w' :=
  ⟨fun m => Nat.le_trans (hk.drawn m) h.drawn, h.os.trans hk.os, h.tape.trans hk.tape, h.output.trans hk.output, by rw [h.size]; exact hk.size, fun k hlt hn => by
    rw [h.block k (fun e => ?_)]
    · exact hk.block k hlt hn
    · subst e
      rcases hb with hb | ⟨i, c, hi⟩
      · omega
      · exact hn i c hi⟩

theorem live_set {bx : List ABox} {i j : Nat} {x : ABox} (hx : x ≠ .dead) (hi : live bx i) : live (bx.set i x) j ↔ live bx j := by
  unfold live
  rw [List.getElem?_set]
  by_cases h : i = j
  · subst h
    simp only [if_true]
    split
    · exact ⟨fun _ => hi, fun _ => fun e => hx (Option.some.inj e)⟩
    · rename_i h2
      rw [List.getElem?_eq_none (by omega)]
  · simp [h]

theorem Sim.turnBox (hs : Sim mo n w0 F0 box0 g ⟨e, bx, f⟩ a w) {j b cap : Nat} (hj : g.box[j]? = some (.blk b cap)) (hl : live bx j) {w' : World} (hw : But b w w') {x : ABox} (hxd : x ≠ .dead)
    (hx : (∀ y v, Rep w0.heap.size w g.F g.tok f g.box y v → Rep w0.heap.size w' g.F g.tok f g.box y v) → BoxOk w0.heap.size w' g.F g.tok f g.box (.blk b cap) x) : Sim mo n w0 F0 box0 g ⟨e, bx.set j x, f⟩ a w' := by
  have hb := hs.boxin j b cap hj
  have hF := hs.boxF j b cap hj hl
  have L : Later w g.F g.tok f w' g.F g.tok f := by
    refine ⟨fun c i hi => hw.cell (fun h => ?_), fun _ => Nat.le_refl _, fun k t sz m hk => ⟨m, hk, Nat.le_refl _, fun _ => ⟨rfl, fun c hc => ⟨hw.block c (fun h => ?_), rfl⟩⟩⟩⟩
    · simp only at h; rw [h, hF] at hi; omega
    · subst h; exact hs.tokbox k c j cap hc hj hl
  exact { hs with
    env := hs.env.later L (fun _ _ h => h)
    below := hw.keep hs.below (hb.1.imp id fun ⟨i, h⟩ => ⟨i, cap, h⟩)
    out := fun c hc => hs.out c (by rw [← hw.size]; exact hc)
    boxlen := by simpa using hs.boxlen
    boxin := fun i c cp hc => by rw [hw.size]; exact hs.boxin i c cp hc
    boxF := fun i c cp hc hi => hs.boxF i c cp hc ((live_set hxd hl).1 hi)
    boxrep := fun i d y hc hy => by
      simp only [List.getElem?_set] at hy
      by_cases hij : j = i
      · subst hij
        rw [hj] at hc; cases hc
        simp only [if_true] at hy
        split at hy
        · cases hy; exact hx (fun _ _ h => h.later L (fun _ _ h => h))
        · cases hy
      · simp only [hij, if_false] at hy
        exact (hs.boxrep i d y hc hy).later L (fun _ _ h => h) (fun b' c' he hne => hw.block b' (fun h => hij (hs.boxinj j i b cap c' hj (by rw [hc, he, h]) hl (fun hd => hne (by rw [show (⟨e, bx, f⟩ : St).bx = bx from rfl, hy] at hd; exact Option.some.inj hd)))))
    boxinj := fun i k c cp cp' hi hk li lk => hs.boxinj i k c cp cp' hi hk ((live_set hxd hl).1 li) ((live_set hxd hl).1 lk)
    tokin := fun k c hc => by rw [hw.size]; exact hs.tokin k c hc
    tokbox := fun k c i cp hc hi hli => hs.tokbox k c i cp hc hi ((live_set hxd hl).1 hli) }

theorem Sim.appendTok (hs : Sim mo n w0 F0 box0 g ⟨e, bx, f⟩ a w) {k t sz m m' b : Nat} (hk : f[k]? = some (t, sz, m)) (hm : m < m') {w' : World}
    (hdr : w.drawn ≤ w'.drawn) (hw : w'.os = w.os ∧ w'.tape = w.tape ∧ w'.output = w.output ∧ w.heap.size ≤ w'.heap.size ∧ ∀ c, c < w.heap.size → c ≠ b → w'.heap[c]? = w.heap[c]?)
    (hb : (g.tok[k]? = some (some b) ∧ g.F b = m * sz ∧ ∀ i, i < m * sz → w'.cell? ⟨b, i, none⟩ = w.cell? ⟨b, i, none⟩) ∨ (b = w.heap.size ∧ w'.heap.size = w.heap.size + 1)) (hbw : b < w'.heap.size) :
    Later w g.F g.tok f w' (setF g.F b (m' * sz)) (g.tok.set k (some b)) (f.set k (t, sz, m')) ∧
    Sim mo n w0 F0 box0 { F := setF g.F b (m' * sz), tok := g.tok.set k (some b), box := g.box } ⟨e, bx, f.set k (t, sz, m')⟩ a w' := by
  have hklt := getElem?_lt hk
  have htl := hs.toklen
  simp only at htl
  have hbB : w0.heap.size ≤ b := by
    rcases hb with ⟨h, _⟩ | ⟨h, _⟩
    · exact (hs.tokin k b h).1
    · rw [h]; exact hs.below.size
  have hnbox : ∀ (j c : Nat), g.box[j]? = some (.blk b c) → ¬ live bx j := fun j c hj => by
    rcases hb with ⟨h, _⟩ | ⟨h, _⟩
    · exact hs.tokbox k b j c h hj
    · have := (hs.boxin j b c hj).2; omega
  have hother : ∀ l c, l ≠ k → g.tok[l]? = some (some c) → c ≠ b ∧ c < w.heap.size := fun l c hl hc => by
    refine ⟨fun h => ?_, (hs.tokin l c hc).2⟩
    subst h
    rcases hb with ⟨h, _⟩ | ⟨h, _⟩
    · exact hl (hs.tokinj l k c hc h)
    · have := (hs.tokin l c hc).2; omega
  have hF : ∀ c, c ≠ b → setF g.F b (m' * sz) c = g.F c := fun c hc => by simp [setF, hc]
  have L : Later w g.F g.tok f w' (setF g.F b (m' * sz)) (g.tok.set k (some b)) (f.set k (t, sz, m')) := by
    refine ⟨fun c i hi => ?_, fun c => ?_, fun l t' s' m'' hl => ?_⟩
    · have hcw : c < w.heap.size := by
        rcases Nat.lt_or_ge c w.heap.size with h1 | h1
        · exact h1
        · rw [hs.out c h1] at hi; omega
      by_cases hcb : c = b
      · subst hcb
        rcases hb with ⟨h, hf, hc⟩ | ⟨h, _⟩
        · exact hc i (by omega)
        · omega
      · exact World.cell?_of_block (w := w) (hw.2.2.2.2 c hcw hcb)
    · by_cases hcb : c = b
      · subst hcb
        simp only [setF, if_true]
        rcases hb with ⟨h, hf, hc⟩ | ⟨h, _⟩
        · rw [hf]; exact Nat.mul_le_mul_right _ (Nat.le_of_lt hm)
        · rw [hs.out c (by omega)]; exact Nat.zero_le _
      · rw [hF c hcb]; exact Nat.le_refl _
    · by_cases hlk : l = k
      · subst hlk
        rw [hk] at hl; cases hl
        exact ⟨m', by simp [hklt], Nat.le_of_lt hm, fun h => by omega⟩
      · have hkl : ¬ k = l := fun h => hlk h.symm
        refine ⟨m'', by rw [List.getElem?_set_ne hkl]; exact hl, Nat.le_refl _, fun _ => ⟨List.getElem?_set_ne hkl, fun c hc => ?_⟩⟩
        obtain ⟨h1, h2⟩ := hother l c hlk hc
        exact ⟨hw.2.2.2.2 c h2 h1, hF c h1⟩
  refine ⟨L, ?_⟩
  exact {
    defers := hs.defers, size := hs.size
    env := hs.env.later L (fun _ _ h => h)
    below := ⟨fun m => Nat.le_trans (hs.below.drawn m) hdr, hw.1.trans hs.below.os, hw.2.1.trans hs.below.tape, hw.2.2.1.trans hs.below.output, Nat.le_trans hs.below.size hw.2.2.2.1, fun c hc hn => (hw.2.2.2.2 c (Nat.lt_of_lt_of_le hc hs.below.size) (by omega)).trans (hs.below.block c hc hn)⟩
    old := fun c hc => by simp only; rw [hF c (by omega)]; exact hs.old c hc
    out := fun c hc => by simp only; rw [hF c (by omega)]; exact hs.out c (Nat.le_trans hw.2.2.2.1 hc)
    boxlen := hs.boxlen
    boxpre := hs.boxpre
    boxin := fun j c cp hc => ⟨(hs.boxin j c cp hc).1, Nat.lt_of_lt_of_le (hs.boxin j c cp hc).2 hw.2.2.2.1⟩
    boxF := fun j c cp hc hl => by
      simp only; rw [hF c (fun h => hnbox j cp (h ▸ hc) hl)]; exact hs.boxF j c cp hc hl
    boxrep := hs.boxrep.later L (fun j c cp hc hl => hw.2.2.2.2 c (hs.boxin j c cp hc).2 (fun h => hnbox j cp (h ▸ hc) hl))
    boxinj := hs.boxinj
    toklen := by simp [htl]
    tokin := fun l c hc => by
      simp only [List.getElem?_set] at hc
      by_cases hlk : k = l
      · simp only [hlk, if_true] at hc
        split at hc
        · cases hc; exact ⟨hbB, hbw⟩
        · cases hc
      · simp only [hlk, if_false] at hc
        have := hs.tokin l c hc
        exact ⟨this.1, Nat.lt_of_lt_of_le this.2 hw.2.2.2.1⟩
    tokbox := fun l c j cp hc hj => by
      simp only [List.getElem?_set] at hc
      by_cases hlk : k = l
      · simp only [hlk, if_true] at hc
        split at hc
        · cases hc; exact hnbox j cp hj
        · cases hc
      · simp only [hlk, if_false] at hc
        exact hs.tokbox l c j cp hc hj
    tokinj := fun i j c hi hj => by
      simp only [List.getElem?_set] at hi hj
      by_cases h1 : k = i <;> by_cases h2 : k = j
      · omega
      · simp only [h1, if_true] at hi
        simp only [h2, if_false] at hj
        split at hi
        · cases hi; exact absurd rfl (hother j _ (fun h => h2 h.symm) hj).1
        · cases hi
      · simp only [h2, if_true] at hj
        simp only [h1, if_false] at hi
        split at hj
        · cases hj; exact absurd rfl (hother i _ (fun h => h1 h.symm) hi).1
        · cases hj
      · simp only [h1, if_false] at hi
        simp only [h2, if_false] at hj
        exact hs.tokinj i j c hi hj }
end

section
variable {P : Program}
/-- what append does to a slice of the call's own, at least one element being appended -/
theorem append_run (w : World) {t ty el : TypeId} {i : TypeInfo} {z : Value} (ht : P.underlying t = some (.slice el)) (hi : P.info? el = some i) (hz : i.zero = some z) (hzs : z.cells.size = i.size)
    {B n cap : Nat} {ad : Option Addr} {vals : List Value} (hown : w.ownsRow B el i.size (.slice ad n cap) n vals)
    {ay : Addr} {m c : Nat} {news : List Value} (hl : news.length = m * i.size) (hnews : ∀ j u, news[j]? = some u → w.cell? (ay.add j) = some u) (h1 : ∀ u ∈ news, u.oneCell' = true)
    (hm : 0 < m) (h40 : n + m ≤ 1099511627776) (hbytes : (n + m) * i.bytes ≤ 140737488355328) :
    (∃ g cur, ad = some ⟨g, 0, none⟩ ∧ w.heap[g]? = some (.cells cur el (0, 0)) ∧ vals = cur.toList.take (n * i.size) ∧ n + m ≤ cap ∧ cap ≤ maxLen ∧ cur.size = cap * i.size ∧
      (Builtin.append_ #[t, t] ty #[.slice ad n cap, .slice (some ay) m c]).run P w = .ok (.slice ad (n + m) cap) (w.setRow g (vals ++ news ++ cur.toList.drop (n * i.size + news.length)).toArray)) ∨
    (∃ cap' rest, (Builtin.append_ #[t, t] ty #[.slice ad n cap, .slice (some ay) m c]).run P w = .ok (.slice (some ⟨w.heap.size, 0, none⟩) (n + m) cap') (w.drew.alloc (.cells (vals ++ news ++ rest).toArray el)) ∧
      n + m ≤ cap' ∧ cap' ≤ maxLen ∧ (vals ++ news ++ rest).length = cap' * i.size) := by
  have h63 : n + m ≤ maxLen := by unfold maxLen; omega
  have hvl := hown.1
  rcases hown.2 with ⟨he, hn⟩ | ⟨g, cap', cur, he, hBg, hg, hnc, hcm, hcs, htake⟩
  · simp only [Value.slice.injEq] at he
    obtain ⟨rfl, rfl, rfl⟩ := he
    have hv : vals = [] := List.eq_nil_of_length_eq_zero (by simpa using hvl)
    subst hv
    right
    have hr := run_append_nil (P := P) w t ty el i z ht hi hz ay m c news hl hnews hm (by omega) (by rw [Nat.zero_add] at hbytes; omega)
    have hge := grownCap_ge w m 0 el
    refine ⟨grownCap w m 0 el, (Builtin.zeroCells z.cells (grownCap w m 0 el - m)).toList, ?_, by omega, grownCap_le_maxLen w m 0 el (by omega), ?_⟩
    · rw [hr, Nat.zero_add]
      congr 3
      apply Array.ext'
      simp
    · simp only [List.nil_append, List.length_append, hl, Array.length_toList, size_zeroCells, hzs, ← Nat.add_mul]
      congr 1; omega
  · simp only [Value.slice.injEq] at he
    obtain ⟨rfl, _, rfl⟩ := he
    by_cases hroom : n + m ≤ cap
    · left
      have hfit : n * i.size + news.length ≤ cur.size := by rw [hl, hcs, ← Nat.add_mul]; exact Nat.mul_le_mul_right _ hroom
      have hr := run_append_room (P := P) w t ty el i ht hi g n cap cur hg ay m c news hl hnews h1 hroom hfit
      refine ⟨g, cur, rfl, hg, htake.symm, hroom, hcm, hcs, ?_⟩
      rw [hr, htake]
    · right
      have holds : ∀ j u, vals[j]? = some u → w.cell? ((⟨g, 0, none⟩ : Addr).add j) = some u := by
        intro j u hu
        have hadd : (⟨g, 0, none⟩ : Addr).add j = ⟨g, j, none⟩ := by rw [Addr.add_lit]; simp
        rw [hadd, cell_of_row w g j cur el (0, 0) hg]
        rw [← htake, List.getElem?_take] at hu
        split at hu
        · simpa using hu
        · cases hu
      have hr := run_append_grow (P := P) w t ty el i z ht hi hz ⟨g, 0, none⟩ n cap vals hvl holds ay m c news hl hnews (by omega) (by omega) (growslice_fits (by omega) hbytes)
      have hge := grownCap_ge w (n + m) cap el
      refine ⟨grownCap w (n + m) cap el, (Builtin.zeroCells z.cells (grownCap w (n + m) cap el - (n + m))).toList, ?_, hge, grownCap_le_maxLen w (n + m) cap el h63, ?_⟩
      · rw [hr]
        congr 3
        apply Array.ext'
        simp
      · simp only [List.length_append, hvl, hl, Array.length_toList, size_zeroCells, hzs, ← Nat.add_mul]
        congr 1; omega

/-- appending nothing -/
theorem append_none (w : World) {t ty el : TypeId} {i : TypeInfo} (ht : P.underlying t = some (.slice el)) (hi : P.info? el = some i)
    {n cap c : Nat} {ad ay : Option Addr} (hcap : n ≤ cap) :
    (Builtin.append_ #[t, t] ty #[.slice ad n cap, .slice ay 0 c]).run P w = .ok (.slice ad n cap) w := by
  cases ad <;> cases ay <;> simp [Builtin.append_, run_underlying ht, sizeOf, typeInfo, hi, Builtin.lenOf, Builtin.firstCells, hcap, loadCells, loadCellsFrom, storeCells]
end
end Abs
end Go.Proofs.Ytamcaplpgmloiaa
