/-
  The operations that leave memory alone: the rest of the laws, and all of them in one.
-/
import Derived.Test.YtamcaplpgmloiaaSound2
import Derived.Lib.Strings
namespace Go.Proofs.Ytamcaplpgmloiaa
namespace Abs
open Go.RowKit

section
variable {P : Program} {B : Nat} {w : World} {F : Nat → Nat} {tok : List (Option Nat)} {fr : Fr} {box : List BId} {bx : List ABox} {e : Env} {a : Act} {o : Oper}

theorem does_field (he : EnvOk B w F tok fr box e a) {t : TypeId} {x : Operand} {i : Nat} {f : Field} {k : AV → Prop} (ho : o.op = .field t x i) (hf : structOff P t i = some f) (hok : okTy P f.type = true)
    (h : evG true e x fun x => match x with | .agg cs => takeAV (aggTy P f.type) (P.cellsOf f.type) (cs.drop f.offset) k | _ => Stop) : Does P B w F tok fr box a o k := by
  obtain ⟨xv, hk, hx⟩ := evG_sound he h
  simp only [okTy, Bool.and_eq_true, Option.isSome_iff_exists] at hok
  obtain ⟨⟨d, hd⟩, ⟨ti, hi⟩⟩ := hok
  have hsz : P.cellsOf f.type = ti.size := by simp [Program.cellsOf, hi]
  unfold structOff at hf
  split at hf
  · rename_i fs hfs
    split at hk
    · rename_i cs
      generalize hv : a.eval x = v at hx
      cases hx.agg_inv with
      | agg _ vs hlen h1 hr =>
        unfold takeAV at hk
        split at hk
        · rename_i hag
          obtain ⟨hn, hk⟩ := hk
          simp only [List.length_drop] at hn
          refine ⟨_, .agg (vs.extract f.offset (f.offset + P.cellsOf f.type)), hk, .rep _ _ (.agg _ _ (by simp; omega) (fun j hj => ?_) (fun j c hj => ?_)), fun w' _ => ?_⟩
          · simp only [Array.size_extract] at hj
            have : (vs.extract f.offset (f.offset + P.cellsOf f.type)).getD j undef = vs.getD (f.offset + j) undef := by
              simp [Array.getD, Array.getElem_extract]; split <;> split <;> first | rfl | omega
            rw [this]; exact h1 _ (by omega)
          · rw [List.getElem?_take] at hj
            split at hj
            · rw [List.getElem?_drop] at hj
              have hl := getElem?_lt hj
              have : (vs.extract f.offset (f.offset + P.cellsOf f.type)).getD j undef = vs.getD (f.offset + j) undef := by
                simp [Array.getD, Array.getElem_extract]; split <;> split <;> first | rfl | omega
              rw [this]; exact hr _ c hj
            · cases hj
          · unfold aggTy at hag
            rw [hd] at hag
            cases d <;> simp at hag <;> simp [execOp, ho, hv, Instr.field, run_underlying hfs, hf, part, isAgg, run_underlying hd, sizeOf, typeInfo, hi, hsz, asAgg]
        · rename_i hag
          split at hk
          · rename_i c cs' hcs
            have hc0 : cs[f.offset]? = some c := by
              have : (cs.drop f.offset)[0]? = some c := by rw [hcs]; rfl
              simpa [List.getElem?_drop] using this
            have hl := getElem?_lt hc0
            have hvs : vs[f.offset]? = some (vs.getD f.offset undef) := by
              have : f.offset < vs.size := by omega
              simp [Array.getD, this]
            refine ⟨_, vs.getD f.offset undef, hk, .rep _ _ (hr _ c hc0), fun w' _ => ?_⟩
            unfold aggTy at hag
            rw [hd] at hag
            cases d <;> simp at hag <;> simp only [execOp, ho, hv, Instr.field, run_underlying hfs, hf, part, isAgg, run_underlying hd, asAgg, Sem.run_bind, Sem.run_pure, Result.andThen_ok, hvs, Bool.false_eq_true, if_false]
          · exact hk.no
    · exact hk.no
  · cases hf

theorem goodElem_inv {t : TypeId} (h : goodElem P t = true) : ∃ el i z, P.underlying t = some (.slice el) ∧ P.info? el = some i ∧ i.zero = some z ∧ z.cells.size = i.size ∧ 0 < i.size ∧ i.size ≤ 64 ∧ elemTy P t = el ∧ P.cellsOf el = i.size := by
  unfold goodElem at h
  split at h
  · rename_i el hu
    split at h
    · rename_i i hi
      split at h
      · rename_i z hz
        simp only [Bool.and_eq_true, beq_iff_eq, decide_eq_true_eq] at h
        exact ⟨el, i, z, hu, hi, hz, h.1.1, h.1.2, h.2, by simp [elemTy, hu], by simp [Program.cellsOf, hi]⟩
      · cases h
    · cases h
  · cases h

theorem does_iadr (he : EnvOk B w F tok fr box e a) {t : TypeId} {x i : Operand} {k : AV → Prop} (ho : o.op = .indexAddr t x i) (hg : goodElem P t = true)
    (h : evG true e x fun x => evG true e i fun i => match x with
      | .bsl j n => gInt i fun _ i => Need (true = true → 0 ≤ i ∧ i < n) (k (.bptr j (i.toNat * P.cellsOf (elemTy P t))))
      | .list _ xs => gInt i fun _ i => Ix true xs i (P.cellsOf (elemTy P t)) fun c => k (.rptr c)
      | _ => Stop) : Does P B w F tok fr box a o k := by
  obtain ⟨el, ti, z, hu, hi, hz, hzs, hpos, _, hel, hcz⟩ := goodElem_inv hg
  rw [hel, hcz] at h
  obtain ⟨xv, hk1, hx⟩ := evG_sound he h
  obtain ⟨iv, hk2, hiv⟩ := evG_sound he hk1
  have hel' : P.elem t = el := by simp [Program.elem, hu]
  have hu' : P.underlying t = some (.slice (P.elem t)) := by rw [hel', hu]
  split at hk2
  · rename_i j m
    obtain ⟨kd, n, rfl, hk3⟩ := gInt_inv hk2
    obtain ⟨hn, hk⟩ := hk3
    obtain ⟨h0, h1⟩ := hn rfl
    obtain ⟨b, cap, hb, hcap, hv⟩ : ∃ b cap, box[j]? = some (.blk b cap) ∧ m ≤ cap ∧ a.eval x = .slice (some ⟨b, 0, none⟩) m cap := by
      rcases hx.bsl_inv with h | ⟨_, rfl, _⟩
      · exact h
      · omega
    refine ⟨_, .pointer (some ⟨b, n.toNat * ti.size, none⟩), hk, .rep _ _ (.bptr _ _ b cap hb), fun w' _ => ?_⟩
    have h1' : 0 ≤ n ∧ n < (m : Int) := ⟨h0, h1⟩
    simp only [execOp, ho, hv, hiv.val_inv, Sem.run_bind, run_indexAt_slice _ _ _ _ _ _ _ hu', if_pos h1', hel', sizeOf, typeInfo, run_program, Result.andThen_ok, hi, Sem.run_pure, Addr.add_lit, Nat.zero_add]
  · obtain ⟨xs, ad, cap, sz, b, off, vs, hk3, hv, hcap, ha, hsz, hF, hc, hr⟩ := gList_rep (x := .list _ _) (k := fun xs => gInt iv fun _ i => Ix true xs i ti.size fun c => k (.rptr c)) hk2 hx
    obtain ⟨kd, n, rfl, hk4⟩ := gInt_inv hk3
    obtain ⟨ec, hb, hk⟩ := hk4
    obtain ⟨h0, hget, h2⟩ := hb rfl
    have hn : n.toNat < xs.length := getElem?_lt hget
    have hne : xs ≠ [] := by intro h0; subst h0; simp at hn
    have hs : sz = ti.size := by rw [← h2, hsz _ (List.mem_of_getElem? hget)]
    subst hs
    refine ⟨_, .pointer (some ⟨b, off + n.toNat * ti.size, none⟩), hk, .rep _ _ (.rptr _ b (off + n.toNat * ti.size) (fun j => vs n.toNat j) (fun _ => ?_) (fun j c hj => hc _ _ j c hget hj) (fun j c hj => hr _ _ j c hget hj)), fun w' _ => ?_⟩
    · have := idx_lt (j := ti.size - 1) hn (by omega) (hF hne)
      omega
    · have hel' : P.elem t = el := by simp [Program.elem, hu]
      have hu' : P.underlying t = some (.slice (P.elem t)) := by rw [hel', hu]
      have h1' : 0 ≤ n ∧ n < (xs.length : Int) := ⟨h0, by omega⟩
      simp only [execOp, ho, hv, ha hne, hiv.val_inv, Sem.run_bind, run_indexAt_slice _ _ _ _ _ _ _ hu', if_pos h1', hel', sizeOf, typeInfo, run_program, Result.andThen_ok, hi, Sem.run_pure, Addr.add_lit]
  · exact hk2.no

theorem does_index (he : EnvOk B w F tok fr box e a) {t : TypeId} {x i : Operand} {k : AV → Prop} (ho : o.op = .index t x i) (ht : P.underlying t = some .string)
    (h : evG true e x fun x => evG true e i fun i => gInt i fun _ i => gStr x fun s =>
      Need (true = true → 0 ≤ i ∧ i < s.length) (k (.val (.int .u8 (s.getD i.toNat 0).toNat)))) : Does P B w F tok fr box a o k := by
  obtain ⟨xv, hk1, hx⟩ := evG_sound he h
  obtain ⟨iv, hk2, hiv⟩ := evG_sound he hk1
  obtain ⟨kd, n, rfl, hk3⟩ := gInt_inv hk2
  obtain ⟨s, rfl, hk4⟩ := gStr_inv hk3
  obtain ⟨hb, hk⟩ := hk4
  obtain ⟨h0, h1⟩ := hb rfl
  have h1' : 0 ≤ n ∧ n < ((⟨s.toArray⟩ : ByteArray).size : Int) := ⟨h0, h1⟩
  have h3 : n.toNat < s.length := by omega
  refine does_val hk fun w' => ?_
  have e1 : s.getD n.toNat 0 = (⟨s.toArray⟩ : ByteArray)[n.toNat]'h3 := by
    rw [List.getD_eq_getElem?_getD, List.getElem?_eq_getElem h3]; rfl
  simp only [execOp, ho, hx.str_inv, mkS, hiv.val_inv, Sem.run_bind, run_index_string _ t _ kd n ht, dif_pos h1', Result.andThen_ok, Sem.run_pure, e1]

theorem bound_sound (he : EnvOk B w F tok fr box e a) {x : Option Operand} {d : Nat} {k : Int → Prop} (h : bound true e x d k) :
    ∃ n, k n ∧ ((x = none ∧ n = d) ∨ ∃ y kd, x = some y ∧ a.eval y = .int kd n) := by
  unfold bound at h
  split at h
  · exact ⟨_, h, .inl ⟨rfl, rfl⟩⟩
  · obtain ⟨y, hk, hy⟩ := evG_sound he h
    obtain ⟨kd, n, rfl, hk⟩ := gInt_inv hk
    exact ⟨n, hk, .inr ⟨_, kd, rfl, hy.val_inv⟩⟩

theorem does_sliceS (he : EnvOk B w F tok fr box e a) {t : TypeId} {x : Operand} {lo hi : Option Operand} {k : AV → Prop} (ho : o.op = .slice t x lo hi none) (ht : P.underlying t = some .string)
    (h : evG true e x fun x => lenK true x fun n => bound true e lo 0 fun lo => bound true e hi n fun hi => sliceK true true 0 x lo hi k) : Does P B w F tok fr box a o k := by
  obtain ⟨xv, hk1, hx⟩ := evG_sound he h
  obtain ⟨s, rfl, hk2⟩ := gStr_inv hk1
  obtain ⟨l, hk3, hl⟩ := bound_sound he hk2
  obtain ⟨m, hk4, hm⟩ := bound_sound he hk3
  obtain ⟨hb, hk⟩ := (hk4 : Need _ _)
  obtain ⟨h0, h1, h2⟩ := hb rfl
  refine ⟨_, _, hk, .rep _ _ (.str _), fun w' _ => ?_⟩
  have hsz : m ≤ ((⟨s.toArray⟩ : ByteArray).size : Int) := h2
  have em : mkS ((s.take m.toNat).drop l.toNat) = .string ((⟨s.toArray⟩ : ByteArray).extract l.toNat m.toNat) := by
    unfold mkS
    congr 1
    apply ByteArray.ext
    apply Array.ext'
    rw [Lib.extract_data]
    simp [List.drop_take]
  have h3 : 0 ≤ m := by omega
  have h4 : l ≤ (m.toNat : Int) := by omega
  have hv : a.eval x = .string ⟨s.toArray⟩ := hx.str_inv
  have hlen : (s.length : Int) = ((⟨s.toArray⟩ : ByteArray).size : Int) := rfl
  rw [em]
  clear em hk h hk1 hk2 hk3 hb hx
  rw [hlen] at h2
  generalize (⟨s.toArray⟩ : ByteArray) = S at *
  rcases hl with ⟨rfl, rfl⟩ | ⟨y, kd, rfl, hl⟩ <;> rcases hm with ⟨rfl, rfl⟩ | ⟨y', kd', rfl, hm⟩ <;>
    simp_all [execOp, Instr.sliceAt, Instr.slice, run_underlying, Instr.sliceBounds, run_sliceBound]

theorem sliced_rep {xs : List (List AV)} {ad : Option Addr} {cap sz b off l m : Nat} {vs : Nat → Nat → Value}
    (hcap : xs.length ≤ cap) (ha : xs ≠ [] → ad = some ⟨b, off, none⟩) (hsz : ∀ e ∈ xs, e.length = sz) (hF : xs ≠ [] → off + xs.length * sz ≤ F b)
    (hc : ∀ i e j c, xs[i]? = some e → e[j]? = some c → w.cell? ⟨b, off + i * sz + j, none⟩ = some (vs i j) ∧ (vs i j).oneCell' = true)
    (hr : ∀ i e j c, xs[i]? = some e → e[j]? = some c → Rep B w F tok fr [] c (vs i j)) (s : Nat) (hs : xs ≠ [] → s = sz) (h1 : l ≤ m) (h2 : m ≤ xs.length) :
    Rep B w F tok fr box (.list none ((xs.take m).drop l)) (sliced ad l m cap s) := by
  have hlen : ((xs.take m).drop l).length = m - l := by simp; omega
  have hgo : ∀ i e, ((xs.take m).drop l)[i]? = some e → xs[l + i]? = some e := fun i e h => by
    rw [List.getElem?_drop, List.getElem?_take] at h
    split at h
    · exact h
    · cases h
  have hne : (xs.take m).drop l ≠ [] → xs ≠ [] ∧ l < m := fun h => by
    constructor
    · rintro rfl; simp at h
    · rcases Nat.lt_or_ge l m with h' | h'
      · exact h'
      · exact absurd (List.eq_nil_of_length_eq_zero (by rw [hlen]; omega)) h
  have e1 : sliced ad l m cap s = .slice (if cap = l then ad else ad.map (·.add (l * s))) ((xs.take m).drop l).length (cap - l) := by rw [hlen]; rfl
  rw [e1]
  refine .list none _ _ (cap - l) sz b (off + l * sz) (fun i j => vs (l + i) j) (by rw [hlen]; omega) (fun h => ?_) (fun e he => hsz e (List.mem_of_mem_take (List.mem_of_mem_drop he))) (fun h => ?_) (fun i e j c hi hj => ?_) (fun i e j c hi hj => hr _ _ j c (hgo i e hi) hj) (fun k hk => by cases hk)
  · obtain ⟨h3, h4⟩ := hne h
    rw [if_neg (by omega), ha h3, hs h3]
    simp [Addr.add_lit]
  · obtain ⟨h3, h4⟩ := hne h
    have h5 := hF h3
    rw [hlen]
    have h6 : l * sz + (m - l) * sz = m * sz := by rw [← Nat.add_mul]; congr 1; omega
    have h7 : m * sz ≤ xs.length * sz := Nat.mul_le_mul_right _ h2
    omega
  · have := hc _ _ j c (hgo i e hi) hj
    rw [show off + l * sz + i * sz + j = off + (l + i) * sz + j by rw [Nat.add_mul]; omega]
    exact this

theorem does_sliceL (he : EnvOk B w F tok fr box e a) {t el : TypeId} {x : Operand} {lo hi : Option Operand} {k : AV → Prop} (ho : o.op = .slice t x lo hi none) (ht : P.underlying t = some (.slice el)) (hok : (P.info? el).isSome = true)
    (h : evG true e x fun x => lenK false x fun n => bound true e lo 0 fun lo => bound true e hi n fun hi => sliceK false true (P.cellsOf el) x lo hi k) : Does P B w F tok fr box a o k := by
  obtain ⟨ti, hti⟩ := Option.isSome_iff_exists.1 hok
  have hcz : P.cellsOf el = ti.size := by simp [Program.cellsOf, hti]
  rw [hcz] at h
  obtain ⟨xv, hk1, hx⟩ := evG_sound he h
  obtain ⟨xs, ad, cap, sz, b, off, vs, ⟨hk2, hself⟩, hv, hcap, ha, hsz, hF, hc, hr⟩ := gList_rep (gList_self hk1) hx
  obtain ⟨l, hk3, hl⟩ := bound_sound he hk2
  obtain ⟨m, hk4, hm⟩ := bound_sound he hk3
  obtain ⟨ys, hb, hk⟩ := hself _ hk4
  obtain ⟨h0, h1, h2, h3, rfl⟩ := hb rfl
  have hs : xs ≠ [] → ti.size = sz := fun h => by
    cases xs with
    | nil => exact absurd rfl h
    | cons c r => rw [← h3 c (by simp), hsz c (by simp)]
  refine ⟨_, _, hk, .rep _ _ (sliced_rep (l := l.toNat) (m := m.toNat) hcap ha hsz hF hc hr ti.size hs (by omega) (by omega)), fun w' _ => ?_⟩
  have h4 : l ≤ (m.toNat : Int) := by omega
  have h5 : m ≤ (cap : Int) := by omega
  have h6 : 0 ≤ m := by omega
  clear hk h hk1 hk2 hk3 hk4 hself hb hx hr hc hF h3
  rcases hl with ⟨rfl, rfl⟩ | ⟨y, kd, rfl, hl⟩ <;> rcases hm with ⟨rfl, rfl⟩ | ⟨y', kd', rfl, hm⟩ <;>
    simp_all [execOp, Instr.sliceAt, Instr.slice, run_underlying, Instr.sliceBounds, run_sliceBound, sliced, sizeOf, typeInfo]

theorem does_extract (he : EnvOk B w F tok fr box e a) {x : Operand} {i : Nat} {k : AV → Prop} (ho : o.op = .extract x i)
    (h : evG true e x fun x => match x with | .tup vs => (match vs[i]? with | some v => k v | none => Stop) | _ => Stop) : Does P B w F tok fr box a o k := by
  obtain ⟨xv, hk, hx⟩ := evG_sound he h
  split at hk
  · rename_i cs
    split at hk
    · rename_i c hc
      generalize hv : a.eval x = v at hx
      cases hx.tup_inv with
      | tup _ vs hl hr =>
        have hi := getElem?_lt hc
        have hi' : i < vs.size := by omega
        refine ⟨_, vs.getD i undef, hk, .rep _ _ (hr i c hc), fun w' _ => ?_⟩
        have hvs : vs[i]? = some (vs.getD i undef) := by simp [Array.getD, hi']
        simp only [execOp, ho, hv, Instr.extract, hvs, Sem.run_bind, Sem.run_pure, Result.andThen_ok]
    · exact hk.no
  · exact hk.no

theorem does_b2s (he : EnvOk B w F tok fr box e a) {s d el : TypeId} {x : Operand} {k : AV → Prop} (ho : o.op = .convert s d x)
    (hs : P.underlying s = some (.slice el)) (hel : P.underlying el = some (.int .u8)) (hd : P.underlying d = some .string)
    (h : evG true e x fun x => gList x fun xs => Bytes xs fun l => k (.str l)) : Does P B w F tok fr box a o k := by
  obtain ⟨xv, hk1, hx⟩ := evG_sound he h
  obtain ⟨xs, ad, cap, sz, b, off, vs, hk2, hv, hcap, ha, hsz, hF, hc, hr⟩ := gList_rep hk1 hx
  obtain ⟨l, rfl, hk⟩ := hk2
  refine ⟨_, mkS l, hk, .rep _ _ (.str _), fun w' hw => ?_⟩
  cases l with
  | nil =>
    have : ad = none ∨ ∃ a', ad = some a' := by cases ad <;> simp
    rcases this with rfl | ⟨a', rfl⟩
    · simp [execOp, ho, hv, convert, run_underlying hs, run_underlying hd, run_underlying hel, Conv.bytesToString, mkS]; rfl
    · have := run_bytesToString (P := P) w' a' 0 cap [] (by simp [loadCells, loadCellsFrom])
      simp [execOp, ho, hv, convert, run_underlying hs, run_underlying hd, run_underlying hel, this, mkS]; rfl
  | cons c r =>
    have hne : (c :: r).map byteCell ≠ [] := by simp
    have hs1 : sz = 1 := by rw [← hsz (byteCell c) (by simp)]; rfl
    subst hs1
    have hcell : ∀ j u, ((c :: r).map fun b => Value.int .u8 b.toNat)[j]? = some u → w'.cell? ((⟨b, off, none⟩ : Addr).add j) = some u := fun j u hu => by
      rw [List.getElem?_map] at hu
      obtain ⟨y, hy, rfl⟩ := Option.map_eq_some_iff.1 hu
      have hy' : ((c :: r).map byteCell)[j]? = some (byteCell y) := by rw [List.getElem?_map, hy]; rfl
      obtain ⟨h1, _⟩ := hc j _ 0 _ hy' rfl
      have h2 := hr j _ 0 _ hy' rfl
      rw [h2.val_inv] at h1
      rw [Addr.add_lit, hw.cell (by have := World.block_lt_of_cell? w _ h1; simpa using this)]
      simpa using h1
    have h3 := run_loadCells_list (P := P) w' ⟨b, off, none⟩ ((c :: r).map fun b => Value.int .u8 b.toNat) hcell
    have h4 := run_bytesToString (P := P) w' ⟨b, off, none⟩ (c :: r).length cap ((c :: r).map fun b => (b.toNat : Int)) (by simpa [List.map_map, Function.comp_def] using h3)
    have h5 : ∀ (l : List UInt8) (s : ByteArray), (l.map fun b => (b.toNat : Int)).foldl (fun r n => r.push (UInt8.ofNat n.toNat)) s = ⟨(s.data.toList ++ l).toArray⟩ := by
      intro l
      induction l with
      | nil => intro s; simp
      | cons a l ih => intro s; simp only [List.map_cons, List.foldl_cons, ih]; simp [ByteArray.push]
    rw [h5] at h4
    rw [ha hne, List.length_map] at hv
    simp only [execOp, ho, hv, convert, Sem.run_bind, run_underlying hs, run_underlying hd, run_underlying hel, Result.andThen_ok, h4, Sem.run_pure, mkS]
    rfl
end
end Abs
end Go.Proofs.Ytamcaplpgmloiaa
