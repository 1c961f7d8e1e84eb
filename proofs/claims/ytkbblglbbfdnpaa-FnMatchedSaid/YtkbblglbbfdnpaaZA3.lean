/-
  What stands below some laws' proofs, part 3: contracts of functions, by an evaluator.
-/
import Derived.Test.YtkbblglbbfdnpaaZA2
namespace Go.Proofs.Ytkbblglbbfdnpaa
open Abs
def setR (v x : Str) : List VPair → List VPair
  | [] => [(v, x)]
  | p :: b => if blt v p.1 then (v, x) :: p :: b else p :: setR v x b
def extF (b : List VPair) (v x : Str) : Option (List VPair) :=
  if bindF b && varF v && atomF x then (if (valF b v).2 && decide ((valF b v).1 = x) then some b else if (valF b v).2 || decide (b.length = 6) then none else some (setR v x b)) else none
def matS (e : List VPair) : List (Str × Str) → Option (List VPair)
  | [] => some e
  | q :: l => if atomF q.1 then (if q.1 = q.2 then matS e l else none) else (match extF e q.1 q.2 with | some e' => matS e' l | none => none)
abbrev AscP (b : List VPair) : Prop := b.Pairwise fun p q => p.1 < q.1
theorem bindF_iff (b : List VPair) : bindF b = true ↔ b.length ≤ 6 ∧ (∀ p ∈ b, varF p.1 = true ∧ atomF p.2 = true) ∧ AscP b := by
  constructor
  · intro h
    refine ⟨bindF_len h, fun p hp => ?_, ?_⟩
    · obtain ⟨j, hj⟩ := List.getElem?_of_mem hp
      have hb := bindF_lt h (getElem?_lt hj)
      have e : b.getD j default = p := by simp [List.getD, hj]
      unfold badB at hb
      rw [e] at hb
      simp only [Bool.or_eq_false_iff, Bool.not_eq_false'] at hb
      exact hb.1
    · rw [AscP, List.pairwise_iff_getElem]
      intro i j hi hj hij
      have := bindF_sorted h (j - i - 1) i (by omega)
      rw [show i + (j - i - 1) + 1 = j by omega] at this
      have h2 : blt (b.getD i default).1 (b.getD j default).1 = true := this
      rw [blt_eq, decide_eq_true_eq] at h2
      simpa [List.getD, hi, hj] using h2
  · rintro ⟨h1, h2, h3⟩
    rw [bindF_yes (fun j hj => ?_)]
    · simp; omega
    · have hm : b.getD j default ∈ b := by simp [List.getD, hj]
      obtain ⟨v1, v2⟩ := h2 _ hm
      unfold badB
      rw [v1, v2]
      simp only [Bool.not_true, Bool.false_or, Bool.and_eq_false_iff, decide_eq_false_iff_not, Bool.not_eq_false']
      rcases Nat.eq_zero_or_pos j with rfl | hp
      · left; omega
      · right
        have h4 := List.pairwise_iff_getElem.1 h3 (j - 1) j (by omega) hj (by omega)
        have : blt (b.getD (j - 1) default).1 (b.getD j default).1 = true := by
          rw [blt_eq, decide_eq_true_eq]
          have hj1 : j - 1 < b.length := by omega
          simpa [List.getD, hj, hj1] using h4
        exact this
theorem atom_novar {t : Str} (h : atomF t = true) : varF t = false := by
  cases t with
  | nil => rfl
  | cons c t =>
    have hc : alnum c = true := by
      unfold atomF at h
      rw [List.all_cons, Bool.and_eq_true, Bool.and_eq_true] at h
      exact h.1.1
    cases hv : varF (c :: t) with
    | false => rfl
    | true =>
      unfold varF at hv
      simp only [Bool.and_eq_true, beq_iff_eq, List.getD_cons_zero] at hv
      have h63 : c.toNat = 63 := by have := hv.1.2; omega
      have : c = 63 := UInt8.toNat_inj.1 h63
      rw [this] at hc
      exact absurd hc (by decide)
theorem lookV_mem : ∀ {b : List VPair} {k v : Str}, lookV b k = some v → (k, v) ∈ b
  | [], _, _, h => by cases h
  | p :: b, k, v, h => by
    rw [lookV] at h
    split at h
    · rename_i e; cases h; subst e; simp
    · exact List.mem_cons_of_mem _ (lookV_mem h)
theorem lookV_none : ∀ {b : List VPair} {k : Str}, lookV b k = none → ∀ p ∈ b, p.1 ≠ k
  | [], _, _, p, hp => by simp at hp
  | q :: b, k, h, p, hp => by
    rw [lookV] at h
    split at h
    · cases h
    · rename_i e
      rcases List.mem_cons.1 hp with rfl | hp
      · exact e
      · exact lookV_none h p hp
/-- the list is the map's pairs, in order -/
structure Like (e m : List VPair) : Prop where
  asc : AscP e
  perm : (e.map (·.1)).Perm (m.map (·.1))
  val : ∀ p ∈ e, mget m p.1 = some p.2
theorem mget_key : ∀ {m : List VPair} {k v : Str}, mget m k = some v → k ∈ m.map (·.1)
  | [], _, _, h => by cases h
  | p :: m, k, v, h => by
    rw [mget] at h
    split at h
    · rename_i e; subst e; simp
    · exact List.mem_cons_of_mem _ (mget_key h)
theorem Like.len {e m : List VPair} (h : Like e m) : e.length = m.length := by simpa using h.perm.length_eq
theorem Like.look {e m : List VPair} (h : Like e m) (k : Str) : lookV e k = mget m k := by
  cases h1 : lookV e k with
  | some v => exact (h.val _ (lookV_mem h1)).symm
  | none =>
    cases h2 : mget m k with
    | none => rfl
    | some v =>
      obtain ⟨p, hp, hk⟩ := List.mem_map.1 (h.perm.symm.mem_iff.1 (mget_key h2))
      exact absurd hk (lookV_none h1 p hp)
theorem srt_fix {l : List Str} (h : l.Pairwise fun a b => a < b) : srt l = l := by
  refine List.mergeSort_of_pairwise (h.imp fun hab => ?_)
  simp only [decide_eq_true_eq]
  exact List.le_of_lt hab
theorem Like.eq {e m : List VPair} (h : Like e m) : e = pairsM m := by
  have h1 : srt (m.map (·.1)) = e.map (·.1) := by
    have h2 : srt (m.map (·.1)) = srt (e.map (·.1)) := (mergeSort_of_perm h.perm.symm : _)
    rw [h2, srt_fix (List.pairwise_map.2 h.asc)]
  rw [pairsM, h1, List.map_map]
  have h3 : ∀ p ∈ e, ((fun k => (k, (mget m k).getD [])) ∘ fun p : VPair => p.1) p = id p := fun p hp => by
    show (p.1, (mget m p.1).getD []) = p
    rw [h.val p hp]; rfl
  rw [List.map_congr_left h3, List.map_id]
theorem mem_setR {v x : Str} : ∀ {b : List VPair} {p : VPair}, p ∈ setR v x b ↔ p = (v, x) ∨ p ∈ b
  | [], p => by simp [setR]
  | q :: b, p => by
    rw [setR]
    split
    · simp
    · simp only [List.mem_cons, mem_setR (b := b)]
      constructor
      · rintro (h | h | h) <;> simp [h]
      · rintro (h | h | h) <;> simp [h]
theorem setR_perm {v x : Str} : ∀ b : List VPair, (setR v x b).Perm (b ++ [(v, x)])
  | [] => List.Perm.refl _
  | q :: b => by
    rw [setR]
    split
    · exact (List.perm_append_singleton (v, x) (q :: b)).symm
    · exact (setR_perm b).cons q
theorem setR_asc {v x : Str} : ∀ {b : List VPair}, AscP b → (∀ p ∈ b, p.1 ≠ v) → AscP (setR v x b)
  | [], _, _ => by simp [setR]
  | q :: b, h, hn => by
    obtain ⟨h1, h2⟩ := List.pairwise_cons.1 h
    rw [setR]
    split
    · rename_i hlt
      rw [blt_eq, decide_eq_true_eq] at hlt
      refine List.pairwise_cons.2 ⟨fun p hp => ?_, h⟩
      rcases List.mem_cons.1 hp with rfl | hp
      · exact hlt
      · exact List.lt_trans hlt (h1 p hp)
    · rename_i hlt
      have hlt : blt v q.1 = false := by simpa using hlt
      have h3 : q.1 < v := by
        cases h4 : blt q.1 v with
        | true => rwa [blt_eq, decide_eq_true_eq] at h4
        | false => exact absurd (blt_sto.tri _ _ h4 hlt) (hn q (by simp))
      refine List.pairwise_cons.2 ⟨fun p hp => ?_, setR_asc h2 (fun p hp => hn p (by simp [hp]))⟩
      rcases mem_setR.1 hp with rfl | hp
      · exact h3
      · exact h1 p hp
theorem mget_snoc {m : List VPair} {v x : Str} : ∀ {k : Str}, mget (m ++ [(v, x)]) k = (match mget m k with | some u => some u | none => if v = k then some x else none) := by
  induction m with
  | nil => intro k; rfl
  | cons p m ih =>
    intro k
    rw [List.cons_append, mget, mget]
    split
    · rfl
    · exact ih
theorem Like.set {e m : List VPair} (h : Like e m) {v x : Str} (hn : mget m v = none) : Like (setR v x e) (mput m v x) := by
  have hm : mput m v x = m ++ [(v, x)] := by
    refine (mget_no fun p hp he => ?_).2 x
    have hl : lookV e v = none := by rw [h.look]; exact hn
    obtain ⟨q, hq, hk⟩ := List.mem_map.1 (h.perm.symm.mem_iff.1 (List.mem_map.2 ⟨p, hp, rfl⟩))
    exact lookV_none hl q hq (hk.trans he)
  have hl : lookV e v = none := by rw [h.look]; exact hn
  rw [hm]
  refine ⟨setR_asc h.asc (lookV_none hl), ?_, fun p hp => ?_⟩
  · refine ((setR_perm e).map _).trans ?_
    rw [List.map_append, List.map_append]
    exact h.perm.append (List.Perm.refl _)
  · rw [mget_snoc]
    rcases mem_setR.1 hp with rfl | hp
    · rw [hn]; simp
    · rw [h.val p hp]
theorem turnS_len : ∀ {l : List (Str × Str)} {m m' : List VPair}, turnS m l = some m' → m.length ≤ m'.length
  | [], m, m', h => by cases h; exact Nat.le_refl _
  | q :: l, m, m', h => by
    rw [turnS] at h
    split at h
    · rename_i m1 h1
      refine Nat.le_trans ?_ (turnS_len h)
      unfold turnStep at h1
      split at h1
      · split at h1
        · split at h1
          · cases h1; exact Nat.le_refl _
          · cases h1
        · cases h1
          have : ∀ (m : List VPair) k v, m.length ≤ (mput m k v).length := fun m k v => by
            induction m with
            | nil => simp [mput]
            | cons p m ih => rw [mput]; split <;> simp; exact ih
          exact this _ _ _
      · split at h1
        · cases h1; exact Nat.le_refl _
        · cases h1
    · cases h
def fin6 (o : Option (List VPair)) : Option (List VPair) := match o with | some m => if m.length ≤ 6 then some (pairsM m) else none | none => none
theorem matS_eq : ∀ (l : List (Str × Str)) {e m : List VPair}, Like e m → bindF e = true → (∀ q ∈ l, termF q.1 = true ∧ atomF q.2 = true) → matS e l = fin6 (turnS m l)
  | [], e, m, h, hb, _ => by
    have := h.len
    have := bindF_len hb
    rw [matS, turnS, fin6, if_pos (by omega), ← h.eq]
  | q :: l, e, m, h, hb, hq => by
    obtain ⟨q1, q2⟩ := hq q (by simp)
    have hl := fun r hr => hq r (List.mem_cons_of_mem q hr)
    obtain ⟨t, x⟩ := q
    simp only at q1 q2
    rw [matS, turnS]
    simp only
    by_cases ha : atomF t = true
    · have hv : varF t = false := atom_novar ha
      rw [if_pos ha]
      by_cases htx : t = x
      · rw [if_pos htx, step_eq hv htx]; exact matS_eq l h hb hl
      · rw [if_neg htx, step_no hv htx]; rfl
    · have hv : varF t = true := by simpa [termF, ha] using q1
      have ha : atomF t = false := by simpa using ha
      rw [if_neg (by simp [ha])]
      have hval : valF e t = match mget m t with | some v => (v, true) | none => ([], false) := by
        unfold valF; rw [if_neg (by simp [ha]), if_pos hv, h.look] <;> (cases mget m t <;> rfl)
      unfold extF
      rw [hb, hv, q2, hval]
      cases hg : mget m t with
      | some v =>
        by_cases hvx : v = x
        · rw [step_old hv hg hvx]; simp [hvx]; exact matS_eq l h hb hl
        · rw [step_bad hv hg hvx]; simp [hvx, fin6]
      | none =>
        rw [step_new hv hg]
        by_cases h6 : e.length = 6
        · simp only [Bool.true_and, Bool.false_and, Bool.false_or, h6, decide_true, if_true]
          simp only [Bool.false_eq_true, if_false]
          cases ht : turnS (mput m t x) l with
          | none => rfl
          | some m' =>
            have h1 := turnS_len ht
            have h2 := h.len
            have h3 := (h.set (x := x) hg).len
            have h4 := (setR_perm (v := t) (x := x) e).length_eq
            rw [List.length_append, List.length_singleton] at h4
            rw [fin6, if_neg (by omega)]
        · simp only [Bool.true_and, Bool.false_and, Bool.false_or, h6, decide_false, Bool.false_eq_true, if_false, if_true]
          obtain ⟨b1, b2, b3⟩ := (bindF_iff e).1 hb
          have hn : lookV e t = none := by rw [h.look]; exact hg
          refine matS_eq l (h.set hg) ((bindF_iff _).2 ⟨?_, fun p hp => ?_, (h.set (x := x) hg).asc⟩) hl
          · have h4 := (setR_perm (v := t) (x := x) e).length_eq
            rw [List.length_append, List.length_singleton] at h4
            omega
          · rcases mem_setR.1 hp with rfl | hp
            · exact ⟨hv, q2⟩
            · exact b2 p hp
theorem like_self {b : List VPair} (h : bindF b = true) : Like b b := by
  obtain ⟨_, _, h3⟩ := (bindF_iff b).1 h
  refine ⟨h3, List.Perm.refl _, fun p hp => ?_⟩
  obtain ⟨j, hj⟩ := List.getElem?_of_mem hp
  refine (mget_at ?_ (show b[j]? = some (p.1, p.2) from hj)).1
  refine List.pairwise_map.2 (h3.imp fun hlt he => ?_)
  rw [he] at hlt
  exact List.lt_irrefl _ hlt
theorem var_len {x : Str} (h : varF x = true) : x.length ≤ 9 := by
  unfold varF at h
  simp only [Bool.and_eq_true] at h
  have h2 := h.2
  unfold atomF at h2
  simp only [Bool.and_eq_true, decide_eq_true_eq, List.length_drop] at h2
  have := h2.2.2
  omega
theorem mput_key {k v : Str} : ∀ {m : List VPair} {p : VPair}, p ∈ mput m k v → p.1 = k ∨ p ∈ m
  | [], p, h => by rw [mput] at h; left; rw [List.mem_singleton.1 h]
  | q :: m, p, h => by
    rw [mput] at h
    split at h
    · rcases List.mem_cons.1 h with rfl | h
      · exact .inl rfl
      · exact .inr (List.mem_cons_of_mem _ h)
    · rcases List.mem_cons.1 h with rfl | h
      · exact .inr (by simp)
      · rcases mput_key h with h | h
        · exact .inl h
        · exact .inr (List.mem_cons_of_mem _ h)
theorem turnS_var : ∀ {l : List (Str × Str)} {m m' : List VPair}, turnS m l = some m' → (∀ p ∈ m, varF p.1 = true) → ∀ p ∈ m', varF p.1 = true
  | [], m, m', h, hm => by cases h; exact hm
  | q :: l, m, m', h, hm => by
    rw [turnS] at h
    split at h
    · rename_i m1 h1
      refine turnS_var h ?_
      unfold turnStep at h1
      split at h1
      · rename_i hv
        split at h1
        · split at h1
          · cases h1; exact hm
          · cases h1
        · cases h1
          intro p hp
          rcases mput_key hp with he | hp
          · rw [he]; exact hv
          · exact hm p hp
      · split at h1
        · cases h1; exact hm
        · cases h1
    · cases h
theorem turnF_var {m m' : List VPair} {a x : List Str} (h : turnF m a x = some m') (hm : bindF m = true) : ∀ p ∈ m', p.1.length ≤ 1048576 := fun p hp => by
  unfold turnF at h
  split at h
  · have := var_len (turnS_var h (fun p hp => (((bindF_iff m).1 hm).2.1 p hp).1) p hp)
    omega
  · cases h
theorem extF_bind {b e : List VPair} {v x : Str} (h : extF b v x = some e) : bindF e = true := by
  unfold extF at h
  split at h
  · rename_i hc
    simp only [Bool.and_eq_true] at hc
    obtain ⟨⟨hb, hv⟩, hx⟩ := hc
    split at h
    · cases h; exact hb
    · rename_i h1
      split at h
      · cases h
      · rename_i h2
        cases h
        simp only [Bool.or_eq_true, decide_eq_true_eq, not_or] at h2
        obtain ⟨b1, b2, b3⟩ := (bindF_iff b).1 hb
        have ha : atomF v = false := by
          cases ha : atomF v with
          | false => rfl
          | true => rw [atom_novar ha] at hv; cases hv
        have hn : lookV b v = none := by
          have h3 := h2.1
          unfold valF at h3
          rw [if_neg (by simp [ha]), if_pos hv] at h3
          cases hl : lookV b v with
          | none => rfl
          | some u => rw [hl] at h3; simp at h3
        refine (bindF_iff _).2 ⟨?_, fun p hp => ?_, setR_asc b3 (lookV_none hn)⟩
        · have h4 := (setR_perm (v := v) (x := x) b).length_eq
          rw [List.length_append, List.length_singleton] at h4
          omega
        · rcases mem_setR.1 hp with rfl | hp
          · exact ⟨hv, hx⟩
          · exact b2 p hp
  · cases h
theorem pairs_size : ∀ {b : List VPair}, (∀ p ∈ b, varF p.1 = true ∧ atomF p.2 = true) → listSize tPair b ≤ 17 * b.length
  | [], _ => Nat.zero_le _
  | p :: b, h => by
    have h1 := pairs_size (b := b) (fun q hq => h q (by simp [hq]))
    obtain ⟨hv, ha⟩ := h p (by simp)
    have h2 := var_len hv
    unfold atomF at ha
    simp only [Bool.and_eq_true, decide_eq_true_eq] at ha
    have h3 := ha.2.2
    show (p.1.length + p.2.length) + listSize tPair b ≤ 17 * (b.length + 1)
    omega
theorem bind_size {b : List VPair} (h : bindF b = true) : tPairs.size b ≤ 1048576 := by
  obtain ⟨h1, h2, _⟩ := (bindF_iff b).1 h
  have := pairs_size h2
  rw [tPairs_sz]; omega
end Go.Proofs.Ytkbblglbbfdnpaa
namespace Go.Proofs.Ytkbblglbbfdnpaa
open Abs
theorem str_step (a : Str) (m : List Str) : strs m ++ [[AV.str a]] = strs (m ++ [a]) := (strs_append m [a]).symm
theorem val_le {b : List VPair} (hb : pairsB b) {t : Str} (ht : t.length ≤ 10) : (valF b t).1.length ≤ 10 := by
  unfold valF
  split
  · exact ht
  · split
    · cases hl : lookV b t with
      | none => exact Nat.zero_le _
      | some v => exact (hb.2 _ (lookV_mem hl)).2
    · exact Nat.zero_le _
theorem pairs_szB {b : List VPair} (h : pairsB b) : tPairs.size b ≤ 1048576 := by
  obtain ⟨h1, h2⟩ := h
  have : listSize tPair b ≤ 20 * b.length := by
    clear h1
    induction b with
    | nil => exact Nat.zero_le _
    | cons p b ih =>
      have h3 := h2 p (by simp)
      have h4 := ih fun x hx => h2 x (by simp [hx])
      show (p.1.length + p.2.length) + listSize tPair b ≤ 20 * (b.length + 1)
      omega
  rw [tPairs_sz]; omega
set_option maxHeartbeats 2000000 in
theorem DrawMatchFact.drt : Drt false Try.prog 18 (fun x : VPattern × Fct × List VPair => fctB x.1 ∧ fctB x.2.1 ∧ pairsB x.2.2) (fun x => .p [.a (tPattern.q x.1), .a (tFct.q x.2.1), pairsX x.2.2]) := by
  refine Drt.of fun l i0 hi0 => DrawMatchFact.ofL rfl rfl ?_
  have ho := dOnce.drw 3 (by decide)
  have h8 := dOnce.drw 8 (by decide)
  repeat' first
    | contradiction | exact trivial
    | (conv => whnf
       first | refine Need.mk (fun h => h) ?_ | refine Need.mk rfl ?_ | refine Need.mk ⟨rfl, Nat.le_of_ble_eq_true rfl⟩ ?_ | refine Need.mk (Nat.le_of_ble_eq_true rfl) ?_ | refine Need.fin ?_ | refine Need.mk ?_ ?_ | refine Ix.strsF rfl ?_ | refine Ix.strs rfl ?_ ?_ | refine Cut.strs rfl ?_ ?_ | refine Ix.mapF (fun _ => rfl) ?_ | refine Ix.map (fun _ => rfl) ?_ ?_ | refine Cut.map (fun _ => rfl) ?_ ?_ | refine Fork.yes (by assumption) ?_ | refine Fork.no (by assumption) ?_ | refine Fork.decYes (by omega) ?_ | refine Fork.decNo (by omega) ?_ | refine Fork.dec (fun _ => ?_) (fun _ => ?_) | refine Fork.bne (fun _ => ?_) (fun _ => ?_) | refine Fork.beq (fun _ => ?_) (fun _ => ?_) | refine Fork.seq (fun _ => ?_) (fun _ => ?_) | refine Fork.sne (fun _ => ?_) (fun _ => ?_) | refine Fork.neg (fun _ => ?_) (fun _ => ?_) | refine Fork.mk (fun _ => ?_) (fun _ => ?_) | refine GFork.fork (.val (.bool false)) (fun hgf => ?_) (fun hgf => ?_) | refine HAlt.mk ?_ ?_ | apply HJoin.mk3 | exact HEnd.mk rfl rfl rfl | refine HEnd.mk ?_ ?_ ?_ | refine Round.mk ?_ | refine NilQ.mk (fun b hb => ?_) | refine forceK_of ?_ | refine forceBx_of ?_ | refine unG_old ?_ | refine unG_gv ?_ | refine Lit.read rfl ?_ | refine LitO.own rfl ?_ | refine FinVal.keep ?_ | refine FinAgg.keep ?_ | refine Final.mk rfl rfl | refine Final.mk ?_ rfl | refine Final.mk ?_ ?_ | refine FinalT.mk ?_ ?_ | refine FinalI.mk ?_ | refine FinalC.hide ?_ | refine ACall.newC (dNew.ins _ _ (by assumption) _ _) rfl (fun i h hi => ?_) | refine ACall.drw (dAnyPat.drw) rfl (by assumption) (by repeat' first | exact SeesL.nil | refine SeesL.cons ?_ ?_ | exact Or.inl ⟨rfl, rfl⟩ | exact Or.inr (Sees0.str _) | exact Or.inr (Sees0.val _) | exact Or.inr (Sees0.olds _ _) | exact Or.inr (Sees0.old _) | exact Or.inr (Sees0.oldagg _) | exact Or.inr (Sees0.list rfl) | exact Or.inr Sees0.nil) rfl (fun a i' h' hi' hq => ?_))
    | refine AV.bool_congr ?_ | refine AV.int_congr ?_ | refine AV.str_congr ?_ | refine AV.list_congr ?_ | with_reducible rfl | refine fr1 ?_ | refine fr2 ?_ ?_
  obtain ⟨p, hpa⟩ : ∃ p, p = a := ⟨_, rfl⟩
  subst hpa
  have hq1 := hq
  clear hq
  repeat' first
    | contradiction | exact trivial
    | (conv => whnf
       first | refine Need.mk (fun h => h) ?_ | refine Need.mk rfl ?_ | refine Need.mk ⟨rfl, Nat.le_of_ble_eq_true rfl⟩ ?_ | refine Need.mk (Nat.le_of_ble_eq_true rfl) ?_ | refine Need.fin ?_ | refine Need.mk ?_ ?_ | refine Ix.strsF rfl ?_ | refine Ix.strs rfl ?_ ?_ | refine Cut.strs rfl ?_ ?_ | refine Ix.mapF (fun _ => rfl) ?_ | refine Ix.map (fun _ => rfl) ?_ ?_ | refine Cut.map (fun _ => rfl) ?_ ?_ | refine Fork.yes (by assumption) ?_ | refine Fork.no (by assumption) ?_ | refine Fork.decYes (by omega) ?_ | refine Fork.decNo (by omega) ?_ | refine Fork.dec (fun _ => ?_) (fun _ => ?_) | refine Fork.bne (fun _ => ?_) (fun _ => ?_) | refine Fork.beq (fun _ => ?_) (fun _ => ?_) | refine Fork.seq (fun _ => ?_) (fun _ => ?_) | refine Fork.sne (fun _ => ?_) (fun _ => ?_) | refine Fork.neg (fun _ => ?_) (fun _ => ?_) | refine Fork.mk (fun _ => ?_) (fun _ => ?_) | refine GFork.fork (.val (.bool false)) (fun hgf => ?_) (fun hgf => ?_) | refine HAlt.mk ?_ ?_ | apply HJoin.mk3 | exact HEnd.mk rfl rfl rfl | refine HEnd.mk ?_ ?_ ?_ | refine Round.mk ?_ | refine NilQ.mk (fun b hb => ?_) | refine forceK_of ?_ | refine forceBx_of ?_ | refine unG_old ?_ | refine unG_gv ?_ | refine Lit.read rfl ?_ | refine LitO.own rfl ?_ | refine FinVal.keep ?_ | refine FinAgg.keep ?_ | refine Final.mk rfl rfl | refine Final.mk ?_ rfl | refine Final.mk ?_ ?_ | refine FinalT.mk ?_ ?_ | refine FinalI.mk ?_ | refine FinalC.hide ?_ | refine ACall.drw (dAnyFact.drw) rfl (by assumption) (by repeat' first | exact SeesL.nil | refine SeesL.cons ?_ ?_ | exact Or.inl ⟨rfl, rfl⟩ | exact Or.inr (Sees0.str _) | exact Or.inr (Sees0.val _) | exact Or.inr (Sees0.olds _ _) | exact Or.inr (Sees0.old _) | exact Or.inr (Sees0.oldagg _) | exact Or.inr (Sees0.list rfl) | exact Or.inr Sees0.nil) rfl (fun a i' h' hi' hq => ?_))
    | refine AV.bool_congr ?_ | refine AV.int_congr ?_ | refine AV.str_congr ?_ | refine AV.list_congr ?_ | with_reducible rfl | refine fr1 ?_ | refine fr2 ?_ ?_
  obtain ⟨f, hfa⟩ : ∃ f, f = a := ⟨_, rfl⟩
  subst hfa
  have hq2 := hq
  clear hq
  repeat' first
    | contradiction | exact trivial
    | (conv => whnf
       first | refine Need.mk (fun h => h) ?_ | refine Need.mk rfl ?_ | refine Need.mk ⟨rfl, Nat.le_of_ble_eq_true rfl⟩ ?_ | refine Need.mk (Nat.le_of_ble_eq_true rfl) ?_ | refine Need.fin ?_ | refine Need.mk ?_ ?_ | refine Ix.strsF rfl ?_ | refine Ix.strs rfl ?_ ?_ | refine Cut.strs rfl ?_ ?_ | refine Ix.mapF (fun _ => rfl) ?_ | refine Ix.map (fun _ => rfl) ?_ ?_ | refine Cut.map (fun _ => rfl) ?_ ?_ | refine Fork.yes (by assumption) ?_ | refine Fork.no (by assumption) ?_ | refine Fork.decYes (by omega) ?_ | refine Fork.decNo (by omega) ?_ | refine Fork.dec (fun _ => ?_) (fun _ => ?_) | refine Fork.bne (fun _ => ?_) (fun _ => ?_) | refine Fork.beq (fun _ => ?_) (fun _ => ?_) | refine Fork.seq (fun _ => ?_) (fun _ => ?_) | refine Fork.sne (fun _ => ?_) (fun _ => ?_) | refine Fork.neg (fun _ => ?_) (fun _ => ?_) | refine Fork.mk (fun _ => ?_) (fun _ => ?_) | refine GFork.fork (.val (.bool false)) (fun hgf => ?_) (fun hgf => ?_) | refine HAlt.mk ?_ ?_ | apply HJoin.mk3 | exact HEnd.mk rfl rfl rfl | refine HEnd.mk ?_ ?_ ?_ | refine Round.mk ?_ | refine NilQ.mk (fun b hb => ?_) | refine forceK_of ?_ | refine forceBx_of ?_ | refine unG_old ?_ | refine unG_gv ?_ | refine Lit.read rfl ?_ | refine LitO.own rfl ?_ | refine FinVal.keep ?_ | refine FinAgg.keep ?_ | refine Final.mk rfl rfl | refine Final.mk ?_ rfl | refine Final.mk ?_ ?_ | refine FinalT.mk ?_ ?_ | refine FinalI.mk ?_ | refine FinalC.hide ?_ | refine ACall.drw (dAnyBind.drw) rfl (by assumption) (by repeat' first | exact SeesL.nil | refine SeesL.cons ?_ ?_ | exact Or.inl ⟨rfl, rfl⟩ | exact Or.inr (Sees0.str _) | exact Or.inr (Sees0.val _) | exact Or.inr (Sees0.olds _ _) | exact Or.inr (Sees0.old _) | exact Or.inr (Sees0.oldagg _) | exact Or.inr (Sees0.list rfl) | exact Or.inr Sees0.nil) rfl (fun a i' h' hi' hq => ?_))
    | refine AV.bool_congr ?_ | refine AV.int_congr ?_ | refine AV.str_congr ?_ | refine AV.list_congr ?_ | with_reducible rfl | refine fr1 ?_ | refine fr2 ?_ ?_
  obtain ⟨b, hba⟩ : ∃ b, b = a := ⟨_, rfl⟩
  subst hba
  have hq3 : pairsB b := hq
  clear hq
  have hsb := pairs_szB hq3
  repeat' first
    | contradiction | exact trivial
    | (conv => whnf
       first | refine Need.mk (fun h => h) ?_ | refine Need.mk rfl ?_ | refine Need.mk ⟨rfl, Nat.le_of_ble_eq_true rfl⟩ ?_ | refine Need.mk (Nat.le_of_ble_eq_true rfl) ?_ | refine Need.fin ?_ | refine Need.mk ?_ ?_ | refine Ix.strsF rfl ?_ | refine Ix.strs rfl ?_ ?_ | refine Cut.strs rfl ?_ ?_ | refine Ix.mapF (fun _ => rfl) ?_ | refine Ix.map (fun _ => rfl) ?_ ?_ | refine Cut.map (fun _ => rfl) ?_ ?_ | refine Fork.yes (by assumption) ?_ | refine Fork.no (by assumption) ?_ | refine Fork.decYes (by omega) ?_ | refine Fork.decNo (by omega) ?_ | refine Fork.dec (fun _ => ?_) (fun _ => ?_) | refine Fork.bne (fun _ => ?_) (fun _ => ?_) | refine Fork.beq (fun _ => ?_) (fun _ => ?_) | refine Fork.seq (fun _ => ?_) (fun _ => ?_) | refine Fork.sne (fun _ => ?_) (fun _ => ?_) | refine Fork.neg (fun _ => ?_) (fun _ => ?_) | refine Fork.mk (fun _ => ?_) (fun _ => ?_) | refine GFork.fork (.val (.bool false)) (fun hgf => ?_) (fun hgf => ?_) | refine HAlt.mk ?_ ?_ | apply HJoin.mk3 | exact HEnd.mk rfl rfl rfl | refine HEnd.mk ?_ ?_ ?_ | refine Round.mk ?_ | refine NilQ.mk (fun b hb => ?_) | refine forceK_of ?_ | refine forceBx_of ?_ | refine unG_old ?_ | refine unG_gv ?_ | refine Lit.read rfl ?_ | refine LitO.own rfl ?_ | refine FinVal.keep ?_ | refine FinAgg.keep ?_ | refine Final.mk rfl rfl | refine Final.mk ?_ rfl | refine Final.mk ?_ ?_ | refine FinalT.mk ?_ ?_ | refine FinalI.mk ?_ | refine FinalC.hide ?_ | refine ACall.drw (ho) rfl (by assumption) (by repeat' first | exact SeesL.nil | refine SeesL.cons ?_ ?_ | exact Or.inl ⟨rfl, rfl⟩ | exact Or.inr (Sees0.str _) | exact Or.inr (Sees0.val _) | exact Or.inr (Sees0.olds _ _) | exact Or.inr (Sees0.old _) | exact Or.inr (Sees0.oldagg _) | exact Or.inr (Sees0.list rfl) | exact Or.inr Sees0.nil) rfl (fun a i' h' hi' hq => ?_))
    | refine AV.bool_congr ?_ | refine AV.int_congr ?_ | refine AV.str_congr ?_ | refine AV.list_congr ?_ | with_reducible rfl | refine fr1 ?_ | refine fr2 ?_ ?_
  rotate_left
  · refine ⟨(p, f, b), ⟨hq1, hq2, hq3⟩, ?_⟩
    (repeat' first | exact SeesL.nil | refine SeesL.cons ?_ ?_ | exact Sees0.val _ | exact Sees0.str _ | exact Sees0.olds _ _ | exact Sees0.old _ | exact Sees0.oldagg _ | exact Sees0.nil | refine Sees0.agg (SeesL.cons ?_ (SeesL.cons ?_ SeesL.nil)) | refine Sees0.agg (SeesL.cons ?_ (SeesL.cons ?_ (SeesL.cons ?_ (SeesL.cons ?_ (SeesL.cons ?_ SeesL.nil))))) | refine Sees0.agg ?_ | refine Sees0.tup ?_ | exact Sees0.list rfl | exact accSees _ _)
  refine ALoop.mk (Nat × Int × Int × List Str) (fun s => ⟨[(2, .bptr 0 0), (3, .bptr 1 0), (5, .bptr 2 0), (6, .bptr 3 0), (7, .bptr 4 0), (8, .list none (pairs b)), (9, .val (.int .i64 s.1))], [.cells .var [.str [], .val (.slice none 0 0)], .cells .var [.str [], .val (.slice none 0 0)], curB l s.2.1 s.2.2.1, .cells .var (oldL (tPattern.q p)), .cells .var [.str p.1, .list (some 0) (strs s.2.2.2)]], [(9, 1, s.2.2.2.length)]⟩)
    (fun s => s.1 ≤ p.2.length ∧ CurOk l s.2.1 ∧ s.2.2.2.length = s.1 ∧ ∀ x ∈ s.2.2.2, x.length ≤ 10) (fun s => p.2.length - s.1) ⟨(0, i', h', []), ⟨Nat.zero_le _, hi', rfl, by simp⟩, ?_⟩ (fun s hs => ?_)
  · repeat' first
      | exact trivial | refine Weak.mk ?_ ?_ ?_ ?_ (Or.inl (Nat.le_of_ble_eq_true rfl)) | refine Weak.mk ?_ ?_ ?_ ?_ (Or.inr ⟨(by repeat' first | exact trivial | exact Nat.le_of_ble_eq_true rfl | refine And.intro ?_ ?_), (by repeat' first | exact trivial | exact Nat.le_of_ble_eq_true rfl | refine And.intro ?_ ?_)⟩) | refine Weak.mk ?_ ?_ ?_ ?_ ?_ | refine And.intro ?_ ?_ | with_reducible rfl | exact Nat.le_of_ble_eq_true rfl | refine fr1 ?_ | refine fr2 ?_ ?_ | refine AV.int_congr ?_ | refine AV.bool_congr ?_ | refine AV.str_congr ?_ | refine AV.list_congr ?_ | refine AV.bsl_congr ?_ ?_ | (apply rfl)
  obtain ⟨n, ci, ch, m⟩ := s
  obtain ⟨s1, s2, s3, s4⟩ := hs
  simp only at s1 s2 s3 s4
  dsimp only
  have hlen : (oldLL (p.2.map Ty.str.q)).length = p.2.length := by simp
  have hla : (strs m).length = m.length := length_strs m
  by_cases hn : n < p.2.length
  rotate_left
  · have hn' : ¬ (n : Int) < ((oldLL (p.2.map Ty.str.q)).length : Int) := by rw [hlen]; omega
    repeat' first
      | contradiction | exact trivial
      | (conv => whnf
         first | refine Need.mk (fun h => h) ?_ | refine Need.mk rfl ?_ | refine Need.mk ⟨rfl, Nat.le_of_ble_eq_true rfl⟩ ?_ | refine Need.mk (Nat.le_of_ble_eq_true rfl) ?_ | refine Need.fin ?_ | refine Need.mk ?_ ?_ | refine Ix.strsF rfl ?_ | refine Ix.strs rfl ?_ ?_ | refine Cut.strs rfl ?_ ?_ | refine Ix.mapF (fun _ => rfl) ?_ | refine Ix.map (fun _ => rfl) ?_ ?_ | refine Cut.map (fun _ => rfl) ?_ ?_ | refine Fork.yes (by assumption) ?_ | refine Fork.no (by assumption) ?_ | refine Fork.decYes (by omega) ?_ | refine Fork.decNo (by omega) ?_ | refine Fork.dec (fun _ => ?_) (fun _ => ?_) | refine Fork.bne (fun _ => ?_) (fun _ => ?_) | refine Fork.beq (fun _ => ?_) (fun _ => ?_) | refine Fork.seq (fun _ => ?_) (fun _ => ?_) | refine Fork.sne (fun _ => ?_) (fun _ => ?_) | refine Fork.neg (fun _ => ?_) (fun _ => ?_) | refine Fork.mk (fun _ => ?_) (fun _ => ?_) | refine GFork.fork (.val (.bool false)) (fun hgf => ?_) (fun hgf => ?_) | refine HAlt.mk ?_ ?_ | apply HJoin.mk3 | exact HEnd.mk rfl rfl rfl | refine HEnd.mk ?_ ?_ ?_ | refine Round.mk ?_ | refine NilQ.mk (fun b hb => ?_) | refine forceK_of ?_ | refine forceBx_of ?_ | refine unG_old ?_ | refine unG_gv ?_ | refine Lit.read rfl ?_ | refine LitO.own rfl ?_ | refine FinVal.keep ?_ | refine FinAgg.keep ?_ | refine Final.mk rfl rfl | refine Final.mk ?_ rfl | refine Final.mk ?_ ?_ | refine FinalT.mk ?_ ?_ | refine FinalI.mk ?_ | refine FinalC.hide ?_)
      | refine AV.bool_congr ?_ | refine AV.int_congr ?_ | refine AV.str_congr ?_ | refine AV.list_congr ?_ | with_reducible rfl | refine fr1 ?_ | refine fr2 ?_ ?_
    all_goals try (exfalso; contradiction)
    all_goals try (exfalso; omega)
    refine ⟨(p, (p.1, m), b), ⟨hq1, ⟨by have := hq1.1; show m.length ≤ 4; omega, hq1.2.1, s4⟩, hq3⟩, ?_⟩
    show Sees0 (AV.tup [AV.agg (oldL (tPattern.q p)), AV.agg [AV.str p.1, AV.list (some 0) (strs m)], AV.list none (pairs b)]) _
    exact Sees0.tup (SeesL.cons (Sees0.oldagg _) (SeesL.cons (Sees0.agg (SeesL.cons (Sees0.str _) (SeesL.cons (Sees0.olds _ _) SeesL.nil))) (SeesL.cons (Sees0.olds _ _) SeesL.nil)))
  have ht10 : (p.2.getD n []).length ≤ 10 := hq1.2.2 _ (by simp [List.getD, hn])
  have hV := Ret.weak (mo := false) (sValueOf.ret b (p.2.getD n []) hsb (by omega))
  have hvl := val_le hq3 ht10
  have hm4 : m.length ≤ 4 := by have := hq1.1; omega
  have step : ∀ (s : Str) (ci ch : Int), CurOk l ci → s.length ≤ 10 → (fun s : Nat × Int × Int × List Str => s.1 ≤ p.2.length ∧ CurOk l s.2.1 ∧ s.2.2.2.length = s.1 ∧ ∀ x ∈ s.2.2.2, x.length ≤ 10) (n + 1, ci, ch, m ++ [s]) := fun s ci ch h1 h2 =>
    ⟨hn, h1, by rw [List.length_append, s3]; rfl, fun x hx => by
      rcases List.mem_append.1 hx with hx | hx
      · exact s4 x hx
      · rw [List.mem_singleton.1 hx]; exact h2⟩
  have boxes : ∀ (s : Str) (ci ch : Int), ([ABox.cells .var [.str [], .val (.slice none 0 0)], .cells .var [.str [], .val (.slice none 0 0)], curB l ci ch, .cells .var (oldL (tPattern.q p)), .cells .var [.str p.1, .list (some 0) (strs m ++ [[AV.str s]])]] : List ABox) = [.cells .var [.str [], .val (.slice none 0 0)], .cells .var [.str [], .val (.slice none 0 0)], curB l ci ch, .cells .var (oldL (tPattern.q p)), .cells .var [.str p.1, .list (some 0) (strs (m ++ [s]))]] := fun s ci ch => by rw [str_step]
  repeat' first
    | contradiction | exact trivial
    | (conv => whnf
       first | refine Need.mk (fun h => h) ?_ | refine Need.mk rfl ?_ | refine Need.mk ⟨rfl, Nat.le_of_ble_eq_true rfl⟩ ?_ | refine Need.mk (Nat.le_of_ble_eq_true rfl) ?_ | refine Need.finN ?_ | refine Need.mk ?_ ?_ | refine Ix.strsN rfl ?_ | refine Ix.strs rfl ?_ ?_ | refine Cut.strs rfl ?_ ?_ | refine Ix.mapN (fun _ => rfl) ?_ | refine Ix.map (fun _ => rfl) ?_ ?_ | refine Cut.map (fun _ => rfl) ?_ ?_ | refine Fork.yes (by assumption) ?_ | refine Fork.no (by assumption) ?_ | refine Fork.decY ?_ | refine Fork.andY ?_ | refine Fork.andN ?_ | refine Fork.decN ?_ | refine Fork.dec (fun _ => ?_) (fun _ => ?_) | refine Fork.bne (fun _ => ?_) (fun _ => ?_) | refine Fork.beq (fun _ => ?_) (fun _ => ?_) | refine Fork.seq (fun _ => ?_) (fun _ => ?_) | refine Fork.sne (fun _ => ?_) (fun _ => ?_) | refine Fork.neg (fun _ => ?_) (fun _ => ?_) | refine Fork.mk (fun _ => ?_) (fun _ => ?_) | refine GFork.fork (.val (.bool false)) (fun hgf => ?_) (fun hgf => ?_) | refine HAlt.mk ?_ ?_ | apply HJoin.mk3 | exact HEnd.mk rfl rfl rfl | refine HEnd.mk ?_ ?_ ?_ | refine Round.mk ?_ | refine NilQ.mk (fun b hb => ?_) | refine forceK_of ?_ | refine forceBx_of ?_ | refine unG_old ?_ | refine unG_gv ?_ | refine Lit.read rfl ?_ | refine LitO.own rfl ?_ | refine FinVal.keep ?_ | refine FinAgg.keep ?_ | refine Final.mk rfl rfl | refine Final.mk ?_ rfl | refine Final.mk ?_ ?_ | refine FinalT.mk ?_ ?_ | refine FinalI.mk ?_ | refine FinalC.hide ?_ | refine ACall.scalA _ _ (hV) rfl ?_ | refine AQCall.mkA _ _ (fun hg => hV) rfl ?_ | refine AGCall.mkA _ _ (fun hg => hV) rfl ?_ | refine ACall.drw (h8) rfl (by assumption) (by repeat' first | exact SeesL.nil | refine SeesL.cons ?_ ?_ | exact Or.inl ⟨rfl, rfl⟩ | exact Or.inr (Sees0.str _) | exact Or.inr (Sees0.val _) | exact Or.inr (Sees0.olds _ _) | exact Or.inr (Sees0.old _) | exact Or.inr (Sees0.oldagg _) | exact Or.inr (Sees0.list rfl) | exact Or.inr Sees0.nil) rfl (fun a i' h' hi' hq => ?_) | refine ACall.drw (dAtom.drw) rfl (by assumption) (by repeat' first | exact SeesL.nil | refine SeesL.cons ?_ ?_ | exact Or.inl ⟨rfl, rfl⟩ | exact Or.inr (Sees0.str _) | exact Or.inr (Sees0.val _) | exact Or.inr (Sees0.olds _ _) | exact Or.inr (Sees0.old _) | exact Or.inr (Sees0.oldagg _) | exact Or.inr (Sees0.list rfl) | exact Or.inr Sees0.nil) rfl (fun a i' h' hi' hq => ?_))
    | refine AV.bool_congr ?_ | refine AV.int_congr ?_ | refine AV.str_congr ?_ | refine AV.list_congr ?_ | with_reducible rfl | refine fr1 ?_ | refine fr2 ?_ ?_
  all_goals first
    | (intro _; omega)
    | omega
    | (intro c hc; rw [List.mem_singleton.1 hc]; rfl)
    | exact (length_strs _).symm
    | (intro _; simpa using hgf)
    | (intro hx; rw [hgf] at hx; cases hx; done)
    | (rw [hla]; exact ⟨by simp only [List.length_cons, List.length_nil]; omega, by simp only [List.length_cons, List.length_nil]; omega⟩)
    | skip
  · refine ⟨(n + 1, i', h', m ++ [a]), step a i' h' hi' (atom_len a hq), ?_, by show p.2.length - (n + 1) < p.2.length - n; omega⟩
    repeat' first
      | exact trivial | refine Weak.mk ?_ ?_ ?_ ?_ (Or.inl (Nat.le_of_ble_eq_true rfl)) | refine Weak.mk ?_ ?_ ?_ ?_ (Or.inr ⟨(by repeat' first | exact trivial | exact Nat.le_of_ble_eq_true rfl | refine And.intro ?_ ?_), (by repeat' first | exact trivial | exact Nat.le_of_ble_eq_true rfl | refine And.intro ?_ ?_)⟩) | refine Weak.mk ?_ ?_ ?_ ?_ ?_ | refine And.intro ?_ ?_ | with_reducible rfl | exact Nat.le_of_ble_eq_true rfl | refine fr1 ?_ | refine fr2 ?_ ?_ | refine AV.int_congr ?_ | refine AV.bool_congr ?_ | refine AV.str_congr ?_ | refine AV.list_congr ?_ | refine AV.bsl_congr ?_ ?_ | (apply rfl)
    all_goals first
      | exact str_step _ _
      | (rw [wrap64 (by omega) (by omega)]; rfl)
      | (rw [length_strs, List.length_append]; rfl)
      | exact boxes _ _ _
  · refine ⟨(n + 1, i', h', m ++ [(valF b (p.2.getD n [])).1]), step _ i' h' hi' hvl, ?_, by show p.2.length - (n + 1) < p.2.length - n; omega⟩
    repeat' first
      | exact trivial | refine Weak.mk ?_ ?_ ?_ ?_ (Or.inl (Nat.le_of_ble_eq_true rfl)) | refine Weak.mk ?_ ?_ ?_ ?_ (Or.inr ⟨(by repeat' first | exact trivial | exact Nat.le_of_ble_eq_true rfl | refine And.intro ?_ ?_), (by repeat' first | exact trivial | exact Nat.le_of_ble_eq_true rfl | refine And.intro ?_ ?_)⟩) | refine Weak.mk ?_ ?_ ?_ ?_ ?_ | refine And.intro ?_ ?_ | with_reducible rfl | exact Nat.le_of_ble_eq_true rfl | refine fr1 ?_ | refine fr2 ?_ ?_ | refine AV.int_congr ?_ | refine AV.bool_congr ?_ | refine AV.str_congr ?_ | refine AV.list_congr ?_ | refine AV.bsl_congr ?_ ?_ | (apply rfl)
    all_goals first
      | exact str_step _ _
      | (rw [wrap64 (by omega) (by omega)]; rfl)
      | (rw [length_strs, List.length_append]; rfl)
      | exact boxes _ _ _
  · refine ⟨(n + 1, i', h', m ++ [a]), step a i' h' hi' (atom_len a hq), ?_, by show p.2.length - (n + 1) < p.2.length - n; omega⟩
    repeat' first
      | exact trivial | refine Weak.mk ?_ ?_ ?_ ?_ (Or.inl (Nat.le_of_ble_eq_true rfl)) | refine Weak.mk ?_ ?_ ?_ ?_ (Or.inr ⟨(by repeat' first | exact trivial | exact Nat.le_of_ble_eq_true rfl | refine And.intro ?_ ?_), (by repeat' first | exact trivial | exact Nat.le_of_ble_eq_true rfl | refine And.intro ?_ ?_)⟩) | refine Weak.mk ?_ ?_ ?_ ?_ ?_ | refine And.intro ?_ ?_ | with_reducible rfl | exact Nat.le_of_ble_eq_true rfl | refine fr1 ?_ | refine fr2 ?_ ?_ | refine AV.int_congr ?_ | refine AV.bool_congr ?_ | refine AV.str_congr ?_ | refine AV.list_congr ?_ | refine AV.bsl_congr ?_ ?_ | (apply rfl)
    all_goals first
      | exact str_step _ _
      | (rw [wrap64 (by omega) (by omega)]; rfl)
      | (rw [length_strs, List.length_append]; rfl)
      | exact boxes _ _ _
  · refine ⟨(n + 1, ci, ch, m ++ [(valF b (p.2.getD n [])).1]), step _ ci ch s2 hvl, ?_, by show p.2.length - (n + 1) < p.2.length - n; omega⟩
    repeat' first
      | exact trivial | refine Weak.mk ?_ ?_ ?_ ?_ (Or.inl (Nat.le_of_ble_eq_true rfl)) | refine Weak.mk ?_ ?_ ?_ ?_ (Or.inr ⟨(by repeat' first | exact trivial | exact Nat.le_of_ble_eq_true rfl | refine And.intro ?_ ?_), (by repeat' first | exact trivial | exact Nat.le_of_ble_eq_true rfl | refine And.intro ?_ ?_)⟩) | refine Weak.mk ?_ ?_ ?_ ?_ ?_ | refine And.intro ?_ ?_ | with_reducible rfl | exact Nat.le_of_ble_eq_true rfl | refine fr1 ?_ | refine fr2 ?_ ?_ | refine AV.int_congr ?_ | refine AV.bool_congr ?_ | refine AV.str_congr ?_ | refine AV.list_congr ?_ | refine AV.bsl_congr ?_ ?_ | (apply rfl)
    all_goals first
      | exact str_step _ _
      | (rw [wrap64 (by omega) (by omega)]; rfl)
      | (rw [length_strs, List.length_append]; rfl)
      | exact boxes _ _ _
end Go.Proofs.Ytkbblglbbfdnpaa
namespace Go.Proofs.Ytkbblglbbfdnpaa
open Abs
theorem lbig.ret (l : List Int) (h : l.length ≤ 9223372036854775807) : lbig.Ret [.list none (rows tByte l)] (.val (.bool (decide ((4096 : Int) < l.length)))) [] := by
  refine lbig.of rfl ?_
  repeat' first
    | contradiction | exact trivial
    | (conv => whnf
       first | refine Need.mk (fun h => h) ?_ | refine Need.mk rfl ?_ | refine Need.mk ⟨rfl, Nat.le_of_ble_eq_true rfl⟩ ?_ | refine Need.mk (Nat.le_of_ble_eq_true rfl) ?_ | refine Need.fin ?_ | refine Need.mk ?_ ?_ | refine Ix.strsF rfl ?_ | refine Ix.strs rfl ?_ ?_ | refine Cut.strs rfl ?_ ?_ | refine Ix.mapF (fun _ => rfl) ?_ | refine Ix.map (fun _ => rfl) ?_ ?_ | refine Cut.map (fun _ => rfl) ?_ ?_ | refine Fork.yes (by assumption) ?_ | refine Fork.no (by assumption) ?_ | refine Fork.decYes (by omega) ?_ | refine Fork.decNo (by omega) ?_ | refine Fork.dec (fun _ => ?_) (fun _ => ?_) | refine Fork.bne (fun _ => ?_) (fun _ => ?_) | refine Fork.beq (fun _ => ?_) (fun _ => ?_) | refine Fork.seq (fun _ => ?_) (fun _ => ?_) | refine Fork.sne (fun _ => ?_) (fun _ => ?_) | refine Fork.neg (fun _ => ?_) (fun _ => ?_) | refine Fork.mk (fun _ => ?_) (fun _ => ?_) | refine GFork.fork (.val (.bool false)) (fun hgf => ?_) (fun hgf => ?_) | refine HAlt.mk ?_ ?_ | apply HJoin.mk3 | exact HEnd.mk rfl rfl rfl | refine HEnd.mk ?_ ?_ ?_ | refine Round.mk ?_ | refine NilQ.mk (fun b hb => ?_) | refine forceK_of ?_ | refine forceBx_of ?_ | refine unG_old ?_ | refine unG_gv ?_ | refine Lit.read rfl ?_ | refine LitO.own rfl ?_ | refine FinVal.keep ?_ | refine FinAgg.keep ?_ | refine Final.mk rfl rfl | refine Final.mk ?_ rfl | refine Final.mk ?_ ?_ | refine FinalT.mk ?_ ?_ | refine FinalI.mk ?_ | refine FinalC.allA ?_)
    | refine AV.bool_congr ?_ | refine AV.int_congr ?_ | refine AV.str_congr ?_ | refine AV.list_congr ?_ | with_reducible rfl | refine fr1 ?_ | refine fr2 ?_ ?_
  rw [length_rows]
end Go.Proofs.Ytkbblglbbfdnpaa
namespace Go.Proofs.Ytkbblglbbfdnpaa
namespace Abs
/-- the boxes of a tree are turned into another one's -/
def TAt (b : List ABox) (n : Nat) (X Y : Tr) (b' : List ABox) : Prop := ∃ pre post, pre.length = n ∧ b = pre ++ gb X n ++ post ∧ pre ++ gb Y n ++ post = b'
theorem TAt.more {A D A' : List ABox} {n : Nat} {X Y : Tr} (h : TAt A n X Y A') : TAt (A ++ D) n X Y (A' ++ D) := by
  obtain ⟨pre, post, h1, rfl, rfl⟩ := h
  exact ⟨pre, post ++ D, h1, by simp, by simp⟩
end Abs
end Go.Proofs.Ytkbblglbbfdnpaa
namespace Go.Proofs.Ytkbblglbbfdnpaa
open Abs
def matF (p : VPattern) (f : Fct) (b : List VPair) : Option (List VPair) :=
  if decide (p.1 = f.1) && isPatF p && isFactF f && bindF b then fin6 (turnF b p.2 f.2) else none
theorem own_tup {α : Type} (T : Ty α) (hf : ∀ a, T.fr a = []) (e : ∀ a, T.tk a 0 = oldL (T.q a)) {F : Fr} {t k : Nat} {l : List α} (v : Value) (hv : plainV v = true) (hk : F[k]? = some (t, T.sz, l.length)) :
    ∃ ts, OwnA F [.p [.l t T.sz (l.map T.q), .v v]] [.tup [.list (some k) (rows T l), .val v]] ts ∧ ts.Nodup := by
  have := OwnA.p _ _ (plain_ownA T hf e F t k l hk (.v v hv .nil)) .nil
  rw [List.append_nil] at this
  exact ⟨[k], this, by simp⟩
theorem pMatchFact.own (p : VPattern) (f : Fct) (b : List VPair) (h1 : tPattern.size p ≤ 1048576) (h2 : tFct.size f ≤ 1048576) (h3 : tPairs.size b ≤ 1048576) :
    Abs.Own false Try.prog 19 [.agg (oldL (tPattern.q p)), .agg (oldL (tFct.q f)), .list none (pairs b)] (.p [.l 50 2 (((matF p f b).getD []).map tPair.q), .v (.bool (matF p f b).isSome)]) := by
  refine Own.of_irP (code := pMatchFact.code) (rs := pMatchFact.res) (K := pMatchFact.keep) Try.func19 rfl (by kernel_rfl) (Nat.le_of_ble_eq_true rfl) (by kernel_rfl) (by kernel_rfl) ?_
  have hx := plainC_old (tPattern.q p)
  have hy := plainC_old (tFct.q f)
  have s1 : tFct.size p ≤ 1048576 := h1
  have s2 := h2
  have s3 := h3
  rw [tFct_size, tStrs_size] at s1 s2
  rw [tPairs_sz] at s3
  generalize ho : matF p f b = o
  repeat' first
    | (conv => whnf
       first | refine Need.mk (fun h => h) ?_ | refine Need.mk rfl ?_ | refine Need.mk (Nat.le_of_ble_eq_true rfl) ?_ | refine Fork.mk (fun _ => ?_) (fun _ => ?_) | refine LitO.own rfl ?_ | refine FinVal.keep ?_ | refine AGCall.mkA _ _ (fun hg => Ret.weak (pIsPattern.ret _ ?_)) rfl ?_ | refine AGCall.mkA _ _ (fun hg => Ret.weak (pIsFact.ret _ ?_)) rfl ?_ | refine AGCall.mkA _ _ (fun hg => Ret.weak (pIsBinding.ret _ ?_)) rfl ?_)
  · exact h1
  · exact h2
  · exact h3
  · rename_i hc
    have : o = none := by
      rw [← ho, matF, if_neg (fun hn => ?_)]
      revert hc hn
      cases hp : decide (p.1 = f.1) <;> cases isPatF p <;> cases isFactF f <;> cases bindF b <;> simp_all
    subst this
    exact own_tup tPair (fun _ => rfl) (fun _ => rfl) (.bool false) rfl rfl
  rename_i hc
  have hc : (decide (p.1 = f.1) && isPatF p && isFactF f && bindF b) = true := by
    revert hc
    cases isPatF p <;> cases isFactF f <;> cases bindF b <;> simp_all
  rw [matF, if_pos hc] at ho
  have hb : bindF b = true := by simp only [Bool.and_eq_true] at hc; exact hc.2
  have hbl := bindF_len hb
  have hmo := pmapOfPairs.lent _ _ hx hy b h3 hb
  have htu := pturnInto.lent _ _ hx hy b p.2 f.2 (by omega) (by omega) (by omega)
  repeat' first
    | (conv => whnf
       first | refine ACall.lentE _ _ _ _ _ (Lent.weak (hmo)) (by repeat' first | exact Lends.nil | refine Lends.map _ ?_ | refine Lends.lend _ _ (by first | exact hx.1 | exact hy.1 | exact noTk_old _ | (intro c hc; rw [List.mem_singleton.1 hc]; rfl) | (intro c hc; cases hc; done)) ?_) (by repeat' first | exact SeesL.nil | refine SeesL.cons ?_ ?_ | exact Or.inl ⟨rfl, rfl⟩ | exact Or.inr (Sees0.str _) | exact Or.inr (Sees0.val _) | exact Or.inr (Sees0.olds _ _) | exact Or.inr (Sees0.old _) | exact Or.inr (Sees0.oldagg _)) ?_ | refine ACall.lent rfl _ _ _ (Lent.weak (htu)) (by repeat' first | exact Lends.nil | refine Lends.map _ ?_ | refine Lends.lend _ _ (by first | exact hx.1 | exact hy.1 | exact noTk_old _ | (intro c hc; rw [List.mem_singleton.1 hc]; rfl) | (intro c hc; cases hc; done)) ?_) (by repeat' first | exact SeesL.nil | refine SeesL.cons ?_ ?_ | exact Or.inl ⟨rfl, rfl⟩ | exact Or.inr (Sees0.str _) | exact Or.inr (Sees0.val _) | exact Or.inr (Sees0.olds _ _) | exact Or.inr (Sees0.old _) | exact Or.inr (Sees0.oldagg _)) ?_)
  rintro _ _ _ ⟨m', rfl, rfl, rfl, hm'⟩
  cases ht : turnF b p.2 f.2 with
  | none =>
    rw [ht] at ho
    have ho : none = o := ho
    subst ho
    repeat' first
      | (conv => whnf
         first | refine Need.mk (fun h => h) ?_ | refine Need.mk rfl ?_ | refine Fork.decYes (by omega) ?_ | refine LitO.own rfl ?_ | refine FinVal.keep ?_)
    all_goals exact own_tup tPair (fun _ => rfl) (fun _ => rfl) (.bool false) rfl rfl
  | some m0 =>
    have e := hm' m0 ht
    subst e
    rw [ht] at ho
    have hkl := turnF_var ht hb
    repeat' first
      | (conv => whnf
         first | refine Need.mk (fun h => h) ?_ | refine Need.mk rfl ?_ | refine Fork.dec (fun _ => ?_) (fun _ => ?_) | refine LitO.own rfl ?_ | refine FinVal.keep ?_)
    · rename_i hc2
      have : o = none := by
        rw [← ho, fin6, if_neg (fun hl => ?_)]
        revert hc2; simp; omega
      subst this
      exact own_tup tPair (fun _ => rfl) (fun _ => rfl) (.bool false) rfl rfl
    rename_i hc2
    have hl6 : m'.length ≤ 6 := by revert hc2; simp; omega
    rw [fin6, if_pos hl6] at ho
    subst ho
    have hpp := ppairsOfMap.lent _ _ hx hy m' (by omega) hkl
    have hpl : (pairsM m').length = m'.length := by rw [pairsM, List.length_map, srt_len, List.length_map]
    repeat' first
      | (conv => whnf
         first | refine FinVal.keep ?_ | refine ACall.lentE _ _ _ _ _ (hpp) (by repeat' first | exact Lends.nil | refine Lends.map _ ?_ | refine Lends.lend _ _ (by first | exact hx.1 | exact hy.1 | exact noTk_old _ | (intro c hc; rw [List.mem_singleton.1 hc]; rfl) | (intro c hc; cases hc; done)) ?_) (by repeat' first | exact SeesL.nil | refine SeesL.cons ?_ ?_ | exact Or.inl ⟨rfl, rfl⟩ | exact Or.inr (Sees0.str _) | exact Or.inr (Sees0.val _) | exact Or.inr (Sees0.olds _ _) | exact Or.inr (Sees0.old _) | exact Or.inr (Sees0.oldagg _)) ?_)
    exact own_tup tPair (fun _ => rfl) (fun _ => rfl) (l := pairsM m') (k := 0) (.bool true) rfl (by rw [hpl]; rfl)
end Go.Proofs.Ytkbblglbbfdnpaa
namespace Go.Proofs.Ytkbblglbbfdnpaa
namespace Abs
theorem ACall.mkTB {α : Type} (T : Ty α) {C : Con} {lend : Bool} {f : Nat} {vs : List AV} {b : List ABox} {fr : Fr} {k : AV → List ABox → Fr → Prop} (ys : List AV) (l : List α) (v : Value) (F : Fr) (h : C.ret f ys (.tup [.list (some 0) (rows T l), .val v]) F) (hv : SeesL Sees0 vs ys)
    (hk : k (.tup [.list (some fr.length) (rows T l), .val v]) b (fr ++ F)) : ACall C lend f vs b fr k :=
  .mk ys _ _ h hv (by
    show k (.tup [.list (some (0 + fr.length)) (mapTLL _ (rows T l)), .val v]) _ _
    rw [rows, mapTLL_old, Nat.zero_add]; exact hk)
end Abs
open Abs
theorem sCopyB.ret (b : List VPair) (h : tPairs.size b ≤ 1048576) : sCopyB.Ret [.list none (pairs b)] (.list (some 0) (pairs b)) [(50, 2, b.length)] := by
  refine sCopyB.of rfl ?_
  rw [tPairs_sz] at h
  repeat' first
    | (conv => whnf
       first | refine Need.mk rfl ?_ | refine Need.mk ?_ ?_ | refine LitO.own rfl ?_ | refine Final.mk ?_ ?_)
    | refine AV.list_congr ?_ | refine fr1 ?_
  all_goals try simp only [length_rows, length_strs, length_oldLL, List.length_map, Int.toNat_natCast] at *
  · exact rows_cut tPair b
  · simp only [List.length_nil]; omega
  · rfl
  · simp
theorem gtr_blt (a v : Str) : (!(Op.bytesLess a v || a == v)) = blt v a := by
  show (!(blt a v || a == v)) = blt v a
  cases h : blt v a with
  | true =>
    have h1 := STO.asymm blt_sto h
    have h2 : (a == v) = false := by
      rw [beq_eq_false_iff_ne]; rintro rfl; rw [blt_sto.irrefl] at h; cases h
    rw [h1, h2]; rfl
  | false =>
    cases h1 : blt a v with
    | true => rfl
    | false =>
      have := blt_sto.tri a v h1 h
      subst this; simp
theorem sSet.ret (b : List VPair) (v x : Str) (h : tPairs.size b ≤ 1048576) : sSet.Ret [.list none (pairs b), .str v, .str x] (.list (some 0) (pairs (setR v x b))) [(50, 2, (setR v x b).length)] := by
  refine sSet.of rfl ?_
  rw [tPairs_sz] at h
  have hsl := (setR_perm (v := v) (x := x) b).length_eq
  rw [List.length_append, List.length_singleton] at hsl
  repeat' first
    | (conv => whnf
       first | refine Need.mk rfl ?_ | refine LitO.own rfl ?_)
  refine ALoop.mk (Nat × List VPair × Bool) (fun i => ⟨[(0, .list none (pairs b)), (1, .str v), (2, .str x), (7, .list (some 0) (pairs i.2.1)), (8, .val (.bool i.2.2)), (9, .val (.int .i64 i.1))], [], [(50, 2, i.2.1.length)]⟩)
    (fun i => i.1 ≤ b.length ∧ i.2.1 ++ (if i.2.2 then b.drop i.1 else setR v x (b.drop i.1)) = setR v x b) (fun i => b.length - i.1) ⟨(0, [], false), ⟨Nat.zero_le _, rfl⟩, ?_⟩ (fun i hi => ?_)
  · repeat' first
      | exact trivial | refine Weak.mk ?_ ?_ ?_ ?_ (Or.inl (Nat.le_of_ble_eq_true rfl)) | refine And.intro ?_ ?_ | with_reducible rfl | exact Nat.le_of_ble_eq_true rfl | refine fr1 ?_ | refine AV.int_congr ?_ | refine AV.bool_congr ?_ | refine AV.str_congr ?_ | refine AV.list_congr ?_ | (apply rfl)
  obtain ⟨i, o, d⟩ := i
  obtain ⟨hi, ho⟩ := hi
  simp only at hi ho
  have hol : o.length ≤ b.length + 1 := by
    have := congrArg List.length ho
    rw [List.length_append, hsl] at this; omega
  have hdr : i < b.length → b.drop i = b.getD i default :: b.drop (i + 1) := fun hlt => by
    rw [List.drop_eq_getElem_cons hlt]; simp [List.getD, hlt]
  repeat' first
    | (conv => whnf
       first | refine Need.mk (fun h => h) ?_ | refine Need.mk rfl ?_ | refine Need.mk (Nat.le_of_ble_eq_true rfl) ?_ | refine Need.mk ?_ ?_ | refine Ix.mapF (fun _ => rfl) ?_ | refine Fork.dec (fun _ => ?_) (fun _ => ?_) | refine Fork.neg (fun _ => ?_) (fun _ => ?_) | refine Fork.mk (fun _ => ?_) (fun _ => ?_) | refine Round.mk ?_ | refine Lit.read rfl ?_ | refine LitO.own rfl ?_ | refine Final.mk ?_ ?_)
    | refine AV.list_congr ?_ | refine fr1 ?_
  all_goals try simp only [length_rows, length_strs, length_oldLL, List.length_map, Int.toNat_natCast] at *
  · intro c hc; rw [List.mem_singleton.1 hc]; rfl
  · simp only [List.length_singleton]; omega
  · simp
  · intro c hc; rw [List.mem_singleton.1 hc]; rfl
  · simp only [List.length_append, List.length_singleton, length_rows]; omega
  · rename_i hc h1
    rw [gtr_blt, Bool.and_eq_true, Bool.not_eq_true'] at hc
    obtain ⟨hd, hb⟩ := hc
    subst hd
    refine ⟨(i + 1, (o ++ [(v, x)]) ++ [b.getD i default], true), ⟨by simp only; omega, ?_⟩, ?_, by simp only; omega⟩
    · rw [hdr (by omega)] at ho
      simp only [Bool.false_eq_true, if_false, setR, hb, if_true] at ho
      simp only [if_true, List.append_assoc, List.singleton_append]
      exact ho
    · repeat' first
        | exact trivial | refine Weak.mk ?_ ?_ ?_ ?_ (Or.inl (Nat.le_of_ble_eq_true rfl)) | refine And.intro ?_ ?_ | with_reducible rfl | exact Nat.le_of_ble_eq_true rfl | refine fr1 ?_ | refine AV.int_congr ?_ | refine AV.bool_congr ?_ | refine AV.str_congr ?_ | refine AV.list_congr ?_ | (apply rfl)
      · exact (congrArg (· ++ _) (rows_snoc tPair o (v, x))).trans (rows_snoc tPair (o ++ [(v, x)]) _)
      · rw [wrap64 (by omega) (by omega)]; rfl
      · simp [length_rows]
  · intro c hc; rw [List.mem_singleton.1 hc]; rfl
  · simp only [List.length_singleton]; omega
  · rename_i hc h1
    refine ⟨(i + 1, o ++ [b.getD i default], d), ⟨by simp only; omega, ?_⟩, ?_, by simp only; omega⟩
    · rw [hdr (by omega)] at ho
      cases d with
      | true => simpa using ho
      | false =>
        rw [gtr_blt] at hc
        have hb : blt v (b.getD i default).1 = false := by simpa using hc
        simp only [Bool.false_eq_true, if_false, setR, hb] at ho
        simp only [Bool.false_eq_true, if_false, List.append_assoc, List.singleton_append]
        exact ho
    · repeat' first
        | exact trivial | refine Weak.mk ?_ ?_ ?_ ?_ (Or.inl (Nat.le_of_ble_eq_true rfl)) | refine And.intro ?_ ?_ | with_reducible rfl | exact Nat.le_of_ble_eq_true rfl | refine fr1 ?_ | refine AV.int_congr ?_ | refine AV.bool_congr ?_ | refine AV.str_congr ?_ | refine AV.list_congr ?_ | (apply rfl)
      · exact rows_snoc tPair o _
      · rw [wrap64 (by omega) (by omega)]; rfl
      · simp
  · intro c hc; rw [List.mem_singleton.1 hc]; rfl
  · simp only [List.length_singleton]; omega
  · rename_i hd h1
    subst hd
    have e : b.drop i = [] := List.drop_eq_nil_of_le (by omega)
    rw [e] at ho
    have ho : o ++ [(v, x)] = setR v x b := ho
    rw [← ho]; exact rows_snoc tPair o (v, x)
  · rename_i hd h1
    subst hd
    have e : b.drop i = [] := List.drop_eq_nil_of_le (by omega)
    rw [e] at ho
    have ho : o ++ [(v, x)] = setR v x b := ho
    rw [← ho, List.length_append]; rfl
  · rename_i hd h1
    subst hd
    have e : b.drop i = [] := List.drop_eq_nil_of_le (by omega)
    rw [e] at ho
    have ho : o ++ [] = setR v x b := ho
    rw [← ho, List.append_nil]
  · rename_i hd h1
    subst hd
    have e : b.drop i = [] := List.drop_eq_nil_of_le (by omega)
    rw [e] at ho
    have ho : o ++ [] = setR v x b := ho
    rw [← ho, List.append_nil]
theorem ext_none {b : List VPair} {v x : Str} (h : (!bindF b || !varF v || !atomF x) = true) : extF b v x = none := by
  unfold extF
  rw [if_neg]
  intro hc
  simp only [Bool.and_eq_true] at hc
  simp [hc.1.1, hc.1.2, hc.2] at h
theorem ext_ok {b : List VPair} {v x : Str} (h : (!bindF b || !varF v || !atomF x) = false) : extF b v x = if (valF b v).2 && decide ((valF b v).1 = x) then some b else if (valF b v).2 || decide (b.length = 6) then none else some (setR v x b) := by
  unfold extF
  rw [if_pos]
  simpa using h
theorem ext_same {b : List VPair} {v x : Str} (h : (!bindF b || !varF v || !atomF x) = false) (hs : ((valF b v).2 && (valF b v).1 == x) = true) : extF b v x = some b := by
  rw [ext_ok h, if_pos (by simpa using hs)]
theorem ext_full {b : List VPair} {v x : Str} (h : (!bindF b || !varF v || !atomF x) = false) (hs : ((valF b v).2 && (valF b v).1 == x) = false) (h6 : ((valF b v).2 || (b.length : Int) == 6) = true) : extF b v x = none := by
  rw [ext_ok h, if_neg (by simpa using hs), if_pos]
  simp only [Bool.or_eq_true, decide_eq_true_eq, beq_iff_eq] at h6 ⊢
  exact h6.imp id (by omega)
theorem ext_new {b : List VPair} {v x : Str} (h : (!bindF b || !varF v || !atomF x) = false) (hs : ((valF b v).2 && (valF b v).1 == x) = false) (h6 : ((valF b v).2 || (b.length : Int) == 6) = false) : extF b v x = some (setR v x b) := by
  rw [ext_ok h, if_neg (by simpa using hs), if_neg]
  simp only [Bool.or_eq_true, decide_eq_true_eq, Bool.or_eq_false_iff, beq_eq_false_iff_ne] at h6 ⊢
  rintro (h7 | h7)
  · rw [h6.1] at h7; cases h7
  · exact h6.2 (by omega)
theorem sExtend.ret (b : List VPair) (v x : Str) (h : tPairs.size b ≤ 1048576) (hv : v.length ≤ 1048576) (hx : x.length ≤ 1048576) :
    sExtend.Ret [.list none (pairs b), .str v, .str x] (.tup [.list (some 0) (pairs ((extF b v x).getD [])), .val (.bool (extF b v x).isSome)]) [(50, 2, ((extF b v x).getD []).length)] := by
  refine sExtend.of rfl ?_
  generalize ho : extF b v x = o
  repeat' first
    | (conv => whnf
       first | refine Need.mk (fun h => h) ?_ | refine Need.mk rfl ?_ | refine Fork.mk (fun _ => ?_) (fun _ => ?_) | refine LitO.own rfl ?_ | refine FinVal.keep ?_ | refine Final.mk ?_ ?_ | refine ACall.scalA _ _ (sIsBinding.ret _ ?_) rfl ?_ | refine AGCall.mkA _ _ (fun hg => sIsVar.ret _ ?_) rfl ?_ | refine AGCall.mkA _ _ (fun hg => sIsAtom.ret _ ?_) rfl ?_ | refine ACall.scalA _ _ (sValueOf.ret _ _ ?_ ?_) rfl ?_ | refine ACall.mkLA _ _ _ _ (sCopyB.ret _ ?_) ?_ | refine ACall.mkLA _ _ _ _ (sSet.ret _ _ _ ?_) ?_)
    | refine fr1 ?_
  · exact h
  · exact hv
  · exact hx
  · rename_i hc; rw [ext_none hc] at ho; subst ho; rfl
  · rename_i hc; rw [ext_none hc] at ho; subst ho; rfl
  · exact h
  · exact hv
  · exact h
  · rename_i hc hs; rw [ext_same hc hs] at ho; subst ho; rfl
  · rename_i hc hs; rw [ext_same hc hs] at ho; subst ho; rfl
  all_goals (try simp only [length_rows] at *)
  · rename_i hc hs h6; rw [ext_full hc hs h6] at ho; subst ho; rfl
  · rename_i hc hs h6; rw [ext_full hc hs h6] at ho; subst ho; rfl
  · exact h
  · rename_i hc hs h6; rw [ext_new hc hs h6] at ho; subst ho; rfl
  · rename_i hc hs h6; rw [ext_new hc hs h6] at ho; subst ho; rfl
theorem matS_no {e : List VPair} {t x : Str} {l : List (Str × Str)} (ha : atomF t = true) (h : t ≠ x) : matS e ((t, x) :: l) = none := by simp [matS, ha, h]
theorem matS_at {e : List VPair} {t x : Str} {l : List (Str × Str)} (ha : atomF t = true) (h : t = x) : matS e ((t, x) :: l) = matS e l := by subst h; simp [matS, ha]
theorem matS_var {e : List VPair} {t x : Str} {l : List (Str × Str)} (ha : atomF t = false) : matS e ((t, x) :: l) = match extF e t x with | some e' => matS e' l | none => none := by simp only [matS, ha, Bool.false_eq_true, if_false] <;> (cases extF e t x <;> rfl)
def matM (p : VPattern) (f : Fct) (b : List VPair) : Option (List VPair) :=
  if isPatF p && isFactF f && bindF b && decide (p.1 = f.1) && decide (p.2.length = f.2.length) then matS b (p.2.zip f.2) else none
theorem own_tup' {α : Type} (T : Ty α) (hf : ∀ a, T.fr a = []) (e : ∀ a, T.tk a 0 = oldL (T.q a)) {F : Fr} {t k : Nat} {l : List α} (v : Value) (hv : plainV v = true) (hk : F[k]? = some (t, T.sz, l.length)) :
    ∃ ts, OwnA F [.p [.l t T.sz (l.map T.q), .v v]] [.tup [.list (some k) (rows T l), .val v]] ts ∧ ts.Nodup := by
  have := OwnA.p _ _ (plain_ownA T hf e F t k l hk (.v v hv .nil)) .nil
  rw [List.append_nil] at this
  exact ⟨[k], this, by simp⟩
theorem sMatchFact.own (p : VPattern) (f : Fct) (b : List VPair) (h1 : tPattern.size p ≤ 1048576) (h2 : tFct.size f ≤ 1048576) (h3 : tPairs.size b ≤ 1048576) :
    sMatchFact.Own [.agg (oldL (tPattern.q p)), .agg (oldL (tFct.q f)), .list none (pairs b)] (.p [.l 50 2 (((matM p f b).getD []).map tPair.q), .v (.bool (matM p f b).isSome)]) := by
  refine Own.of_irP (code := sMatchFact.code) (rs := sMatchFact.res) (K := sMatchFact.keep) Try.func20 rfl (by kernel_rfl) (Nat.le_of_ble_eq_true rfl) (by kernel_rfl) (by kernel_rfl) ?_
  have s1 : tFct.size p ≤ 1048576 := h1
  have s2 := h2
  have s3 := h3
  rw [tFct_size, tStrs_size] at s1 s2
  rw [tPairs_sz] at s3
  generalize ho : matM p f b = o
  have ecast : ((p.2.length : Int) != (f.2.length : Int)) = (p.2.length != f.2.length) := by rw [Bool.eq_iff_iff]; simp; omega
  repeat' first
    | (conv => whnf
       first | refine Need.mk (fun h => h) ?_ | refine Need.mk rfl ?_ | refine Need.mk (Nat.le_of_ble_eq_true rfl) ?_ | refine Fork.mk (fun _ => ?_) (fun _ => ?_) | refine LitO.own rfl ?_ | refine FinVal.keep ?_ | refine ACall.scalA _ _ (sIsPattern.ret _ ?_) rfl ?_ | refine AGCall.mkA _ _ (fun hg => sIsFact.ret _ ?_) rfl ?_ | refine AGCall.mkA _ _ (fun hg => sIsBinding.ret _ ?_) rfl ?_ | refine ACall.mkLA _ _ _ _ (sCopyB.ret _ ?_) ?_)
  · exact h1
  · exact h2
  · exact h3
  · rename_i hc
    simp only [length_oldLL, List.length_map, ecast] at hc
    have : o = none := by
      rw [← ho, matM, if_neg (fun hn => ?_)]
      revert hc hn
      cases isPatF p <;> cases isFactF f <;> cases bindF b <;> simp_all
      rintro (h | h) h'
      · exact absurd h' h
      · exact h
    subst this
    exact own_tup' tPair (fun _ => rfl) (fun _ => rfl) (.bool false) rfl rfl
  · exact h3
  rename_i hc
  simp only [length_oldLL, List.length_map, ecast] at hc
  have hc : (isPatF p && isFactF f && bindF b && decide (p.1 = f.1) && decide (p.2.length = f.2.length)) = true := by
    revert hc
    cases isPatF p <;> cases isFactF f <;> cases bindF b <;> simp_all
  rw [matM, if_pos hc] at ho
  simp only [Bool.and_eq_true, decide_eq_true_eq] at hc
  obtain ⟨⟨⟨⟨hpat, hfct⟩, hb⟩, _⟩, hlen⟩ := hc
  refine ALoop.mk (Nat × Fr × Nat × List VPair) (fun i => ⟨[(0, .agg (oldL (tPattern.q p))), (1, .agg (oldL (tFct.q f))), (2, .list none (pairs b)), (3, .bptr 0 0), (4, .bptr 1 0), (8, .list (some i.2.2.1) (pairs i.2.2.2)), (9, .val (.int .i64 i.1))], [.cells .var (oldL (tPattern.q p)), .cells .var (oldL (tFct.q f))], i.2.1⟩)
    (fun i => i.1 ≤ p.2.length ∧ i.2.1[i.2.2.1]? = some (50, 2, i.2.2.2.length) ∧ bindF i.2.2.2 = true ∧ matS i.2.2.2 ((p.2.zip f.2).drop i.1) = o) (fun i => p.2.length - i.1) ⟨(0, [(50, 2, b.length)], 0, b), ⟨Nat.zero_le _, rfl, hb, ho⟩, ?_⟩ (fun i hi => ?_)
  · repeat' first
      | exact trivial | refine Weak.mk ?_ ?_ ?_ ?_ (Or.inl (Nat.le_of_ble_eq_true rfl)) | refine And.intro ?_ ?_ | with_reducible rfl | exact Nat.le_of_ble_eq_true rfl | refine fr1 ?_ | refine AV.int_congr ?_ | refine AV.list_congr ?_ | (apply rfl)
  obtain ⟨i, F, k, e⟩ := i
  obtain ⟨hi, hF, hbe, hm⟩ := hi
  simp only at hi hF hbe hm
  have hal := str_le' p.2 i
  have hzl := str_le' f.2 i
  repeat' first
    | (conv => whnf
       first | refine Need.mk rfl ?_ | refine Ix.strsF rfl ?_ | refine Fork.dec (fun _ => ?_) (fun _ => ?_) | refine Fork.sne (fun _ => ?_) (fun _ => ?_) | refine Fork.neg (fun _ => ?_) (fun _ => ?_) | refine Fork.mk (fun _ => ?_) (fun _ => ?_) | refine Round.mk ?_ | refine LitO.own rfl ?_ | refine FinVal.keep ?_ | refine ACall.scalA _ _ (sIsAtom.ret _ ?_) rfl ?_ | refine ACall.mkTB tPair _ _ _ _ (sExtend.ret _ _ _ ?_ ?_ ?_) (by repeat' first | exact SeesL.nil | refine SeesL.cons ?_ ?_ | exact SeesB.of0 (Sees0.val _) | exact SeesB.of0 (Sees0.str _) | exact SeesB.of0 (Sees0.olds _ _) | exact SeesB.of0 (Sees0.old _) | exact SeesB.of0 (Sees0.oldagg _) | exact SeesB.of0 Sees0.nil | exact Sees0.val _ | exact Sees0.str _ | exact Sees0.olds _ _ | exact Sees0.old _ | exact Sees0.oldagg _ | exact Sees0.nil | exact SeesB.of0 (Sees0.any _) | assumption | exact sees_gv _ _ _ (by assumption) (by first | assumption | exact BoxIn.last _ _ | exact BoxIn.more (BoxIn.last _ _) _) | refine SeesB.agg ?_ | refine Sees0.agg ?_ | exact SeesB.of0 (Sees0.clo SeesL.nil SeesL.nil) | exact Sees0.clo SeesL.nil SeesL.nil | exact SeesB.of0 (Sees0.list rfl) | exact Sees0.list rfl) ?_)
  all_goals (try simp only [length_oldLL, List.length_map, Int.toNat_natCast] at *)
  · omega
  · rename_i ha hne hlt
    rw [zip_drop (by omega) (by omega), matS_no ha hne] at hm
    subst hm
    exact own_tup' tPair (fun _ => rfl) (fun _ => rfl) (.bool false) rfl (by simp; rfl)
  · rename_i ha heq hlt
    rw [zip_drop (by omega) (by omega), matS_at ha heq] at hm
    refine ⟨(i + 1, F, k, e), ⟨by simp only; omega, hF, hbe, hm⟩, ?_, by simp only; omega⟩
    repeat' first
      | exact trivial | refine Weak.mk ?_ ?_ ?_ ?_ (Or.inl (Nat.le_of_ble_eq_true rfl)) | refine And.intro ?_ ?_ | with_reducible rfl | exact Nat.le_of_ble_eq_true rfl | refine AV.int_congr ?_ | refine AV.list_congr ?_ | (apply rfl)
    rw [wrap64 (by omega) (by omega)]; rfl
  · exact bind_size hbe
  · omega
  · omega
  · rename_i ha hno hlt
    have hx := Option.isSome_eq_false_iff.1 hno
    rw [zip_drop (by omega) (by omega), matS_var ha, Option.isNone_iff_eq_none.1 hx] at hm
    have hm : none = o := hm
    subst hm
    exact own_tup' tPair (fun _ => rfl) (fun _ => rfl) (.bool false) rfl (by simp; rfl)
  · rename_i ha hso hlt
    obtain ⟨e', he⟩ := Option.isSome_iff_exists.1 hso
    rw [zip_drop (by omega) (by omega), matS_var ha, he] at hm
    have hm : matS e' ((p.2.zip f.2).drop (i + 1)) = o := hm
    refine ⟨(i + 1, F ++ [(50, 2, e'.length)], F.length, e'), ⟨by simp only; omega, by simp, extF_bind he, hm⟩, ?_, by simp only; omega⟩
    rw [he]
    repeat' first
      | exact trivial | refine Weak.mk ?_ ?_ ?_ ?_ (Or.inl (Nat.le_of_ble_eq_true rfl)) | refine And.intro ?_ ?_ | with_reducible rfl | exact Nat.le_of_ble_eq_true rfl | refine AV.int_congr ?_ | refine AV.list_congr ?_ | (apply rfl)
    rw [wrap64 (by omega) (by omega)]; rfl
  · have e0 : (p.2.zip f.2).drop i = [] := List.drop_eq_nil_of_le (by simp; omega)
    rw [e0, matS] at hm
    subst hm
    exact own_tup' tPair (fun _ => rfl) (fun _ => rfl) (l := e) (.bool true) rfl hF
end Go.Proofs.Ytkbblglbbfdnpaa
namespace Go.Proofs.Ytkbblglbbfdnpaa
open Abs
theorem matM_eq (p : VPattern) (f : Fct) (b : List VPair) : matM p f b = matF p f b := by
  unfold matM matF
  by_cases hc : (decide (p.1 = f.1) && isPatF p && isFactF f && bindF b) = true
  · rw [if_pos hc]
    have hc' := hc
    simp only [Bool.and_eq_true] at hc'
    obtain ⟨⟨⟨h1, h2⟩, h3⟩, h4⟩ := hc'
    rw [h1, h2, h3, h4]
    simp only [Bool.true_and, decide_eq_true_eq]
    unfold turnF
    by_cases hl : p.2.length = f.2.length
    · rw [if_pos hl, if_pos hl]
      refine matS_eq _ (like_self h4) h4 (fun q hq => ?_)
      have h5 : p.2.all termF = true := by
        unfold isPatF tupF at h2; simp only [Bool.and_eq_true] at h2; exact h2.2
      have h6 : f.2.all atomF = true := by
        unfold isFactF at h3; simp only [Bool.and_eq_true] at h3; exact h3.2
      obtain ⟨t, x⟩ := q
      have h7 := List.of_mem_zip hq
      exact ⟨List.all_eq_true.1 h5 t h7.1, List.all_eq_true.1 h6 x h7.2⟩
    · rw [if_neg hl, if_neg hl]; rfl
  · rw [if_neg hc, if_neg]
    intro hn
    apply hc
    simp only [Bool.and_eq_true] at hn ⊢
    obtain ⟨⟨⟨⟨a, b⟩, c⟩, d⟩, _⟩ := hn
    exact ⟨⟨⟨d, a⟩, b⟩, c⟩
end Go.Proofs.Ytkbblglbbfdnpaa
namespace Go.Proofs.Ytkbblglbbfdnpaa
open Abs
/-- the values of some terms; none if one has none -/
def valsF (b : List VPair) : List Str → Option (List Str)
  | [] => some []
  | t :: l => if (valF b t).2 then (match valsF b l with | some m => some ((valF b t).1 :: m) | none => none) else none
def insF (p : VPattern) (b : List VPair) : Option Fct := if isPatF p && bindF b then (match valsF b p.2 with | some m => some (p.1, m) | none => none) else none
def insR (p : VPattern) (b : List VPair) : Tr := .p [.a (tFct.q ((insF p b).getD ([], []))), .v (.bool (insF p b).isSome)]
theorem vals_all {b : List VPair} : ∀ {l : List Str}, (∀ i, i < l.length → (valF b (l.getD i [])).2 = true) → valsF b l = some (l.map fun t => (valF b t).1)
  | [], _ => rfl
  | t :: l, h => by
    have h0 : (valF b t).2 = true := h 0 (by simp)
    have h1 := vals_all (b := b) (l := l) (fun i hi => by have := h (i + 1) (by simp; omega); simpa using this)
    rw [valsF, if_pos h0, h1]; rfl
theorem vals_no {b : List VPair} : ∀ {l : List Str} {i : Nat}, i < l.length → (valF b (l.getD i [])).2 = false → valsF b l = none
  | t :: l, 0, _, h => by
    have h : (valF b t).2 = false := h
    rw [valsF, if_neg (by simp [h])]
  | t :: l, i + 1, hi, h => by
    have h1 := vals_no (b := b) (l := l) (i := i) (by simpa using hi) (by simpa using h)
    rw [valsF, h1]
    split <;> rfl
theorem ins_bad {p : VPattern} {b : List VPair} (h : (!isPatF p || !bindF b) = true) : insR p b = .p [.a (tFct.q ([], [])), .v (.bool false)] := by
  unfold insR insF
  rw [if_neg (by revert h; cases isPatF p <;> cases bindF b <;> simp)]; rfl
theorem ins_none {p : VPattern} {b : List VPair} (h : valsF b p.2 = none) : insR p b = .p [.a (tFct.q ([], [])), .v (.bool false)] := by
  unfold insR insF
  rw [h]; split <;> rfl
theorem ins_some {p : VPattern} {b : List VPair} {m : List Str} (hg : (!isPatF p || !bindF b) = false) (h : valsF b p.2 = some m) : insR p b = .p [.a (tFct.q (p.1, m)), .v (.bool true)] := by
  unfold insR insF
  rw [if_pos (by revert hg; cases isPatF p <;> cases bindF b <;> simp), h]; rfl
theorem own_fctb {F : Fr} {k : Nat} {r : Str} {l : List Str} (v : Bool) (hk : F[k]? = some (9, 1, l.length)) :
    ∃ ts, OwnA F [.p [.a (tFct.q (r, l)), .v (.bool v)]] [.tup [.agg [.str r, .list (some k) (strs l)], .val (.bool v)]] ts ∧ ts.Nodup :=
  ⟨_, .p _ _ (.a _ _ (.s _ (.l _ _ _ k _ (by simpa using hk) (by simp) (fun e he => by obtain ⟨s, _, rfl⟩ := List.mem_map.1 he; rfl) (strs_sz _) (own_strs _ _) .nil)) (.v _ rfl .nil)) .nil, by simp⟩
theorem own_fct0 {F : Fr} {r : Str} (v : Bool) : ∃ ts, OwnA F [.p [.a (tFct.q (r, [])), .v (.bool v)]] [.tup [.agg [.str r, .val (.slice none 0 0)], .val (.bool v)]] ts ∧ ts.Nodup :=
  ⟨_, .p _ _ (.a _ _ (.s _ (.nils _ _ .nil)) (.v _ rfl .nil)) .nil, by simp⟩
theorem pInstance.own (p : VPattern) (b : List VPair) (h1 : tPattern.size p ≤ 1048576) (h2 : tPairs.size b ≤ 1048576) : pInstance.Own [.agg (oldL (tPattern.q p)), .list none (pairs b)] (insR p b) := by
  refine Own.of_irP (code := pInstance.code) (rs := pInstance.res) (K := pInstance.keep) Try.func21 rfl (by kernel_rfl) (Nat.le_of_ble_eq_true rfl) (by kernel_rfl) (by kernel_rfl) ?_
  have s1 : tFct.size p ≤ 1048576 := h1
  rw [tFct_size, tStrs_size] at s1
  repeat' first
    | contradiction | exact trivial
    | (conv => whnf
       first | refine Need.mk (fun h => h) ?_ | refine Need.mk rfl ?_ | refine Need.mk ⟨rfl, Nat.le_of_ble_eq_true rfl⟩ ?_ | refine Need.mk (Nat.le_of_ble_eq_true rfl) ?_ | refine Need.fin ?_ | refine Need.mk ?_ ?_ | refine Ix.strsF rfl ?_ | refine Ix.strs rfl ?_ ?_ | refine Cut.strs rfl ?_ ?_ | refine Ix.mapF (fun _ => rfl) ?_ | refine Ix.map (fun _ => rfl) ?_ ?_ | refine Cut.map (fun _ => rfl) ?_ ?_ | refine Fork.yes (by assumption) ?_ | refine Fork.no (by assumption) ?_ | refine Fork.decYes (by omega) ?_ | refine Fork.decNo (by omega) ?_ | refine Fork.dec (fun _ => ?_) (fun _ => ?_) | refine Fork.bne (fun _ => ?_) (fun _ => ?_) | refine Fork.beq (fun _ => ?_) (fun _ => ?_) | refine Fork.seq (fun _ => ?_) (fun _ => ?_) | refine Fork.sne (fun _ => ?_) (fun _ => ?_) | refine Fork.neg (fun _ => ?_) (fun _ => ?_) | refine Fork.mk (fun _ => ?_) (fun _ => ?_) | refine GFork.fork (.val (.bool false)) (fun hgf => ?_) (fun hgf => ?_) | refine HAlt.mk ?_ ?_ | refine HJoin.split ?_ | exact HEnd.mk rfl rfl rfl | refine HEnd.mk ?_ ?_ ?_ | refine Round.mk ?_ | refine NilQ.mk (fun b hb => ?_) | refine forceK_of ?_ | refine forceBx_of ?_ | refine unG_old ?_ | refine unG_gv ?_ | refine Lit.read rfl ?_ | refine LitO.own rfl ?_ | refine FinVal.keep ?_ | refine FinAgg.keep ?_ | refine Final.mk rfl rfl | refine Final.mk ?_ rfl | refine Final.mk ?_ ?_ | refine FinalT.mk ?_ ?_ | refine FinalI.mk ?_ | refine FinalC.allA ?_ | refine ACall.scalA _ _ (pIsPattern.ret _ ?_) rfl ?_ | refine AQCall.mkA _ _ (fun hg => pIsPattern.ret _ ?_) rfl ?_ | refine AGCall.mkA _ _ (fun hg => pIsPattern.ret _ ?_) rfl ?_ | refine ACall.scalA _ _ (pIsBinding.ret _ ?_) rfl ?_ | refine AQCall.mkA _ _ (fun hg => pIsBinding.ret _ ?_) rfl ?_ | refine AGCall.mkA _ _ (fun hg => pIsBinding.ret _ ?_) rfl ?_)
    | refine AV.bool_congr ?_ | refine AV.int_congr ?_ | refine AV.str_congr ?_ | refine AV.list_congr ?_ | with_reducible rfl | refine fr1 ?_ | refine fr2 ?_ ?_
  · exact h1
  · exact h2
  · rw [ins_bad (by assumption)]; exact own_fct0 false
  · rename_i hg
    refine ALoop.mk Nat (fun i => ⟨[(0, .agg (oldL (tPattern.q p))), (1, .list none (pairs b)), (2, .bptr 0 0), (4, .bptr 1 0), (6, .bptr 3 0), (28, .list none (strs p.2)), (29, .val (.int .i64 p.2.length)), (30, .val (.int .i64 i))], [.cells .var (oldL (tPattern.q p)), .cells .var [.str [], .val (.slice none 0 0)], .cells (.row 9 1) (part [.str []] (strs (p.2.map fun t => (valF b t).1)) i), .cells .var [.str p.1, .bsl 2 p.2.length]], []⟩)
      (fun i => i ≤ p.2.length ∧ ∀ j, j < i → (valF b (p.2.getD j [])).2 = true) (fun i => p.2.length - i) ⟨0, ⟨Nat.zero_le _, fun j hj => absurd hj (by omega)⟩, ?_⟩ (fun i hi => ?_)
    · repeat' first
        | exact trivial | refine Weak.mk ?_ ?_ ?_ ?_ (Or.inl (Nat.le_of_ble_eq_true rfl)) | refine Weak.mk ?_ ?_ ?_ ?_ (Or.inr ⟨(by repeat' first | exact trivial | exact Nat.le_of_ble_eq_true rfl | refine And.intro ?_ ?_), (by repeat' first | exact trivial | exact Nat.le_of_ble_eq_true rfl | refine And.intro ?_ ?_)⟩) | refine Weak.mk ?_ ?_ ?_ ?_ ?_ | refine And.intro ?_ ?_ | with_reducible rfl | exact Nat.le_of_ble_eq_true rfl | refine fr1 ?_ | refine fr2 ?_ ?_ | refine AV.int_congr ?_ | refine AV.bool_congr ?_ | refine AV.str_congr ?_ | refine AV.list_congr ?_ | refine AV.bsl_congr ?_ ?_ | (apply rfl)
      · simp
      · simp only [length_oldLL, List.length_map, Int.toNat_natCast]
        rw [part_made (xs := strs (p.2.map fun t => (valF b t).1)) (sz := 1) rfl (by decide) (by simp)]; rfl
    obtain ⟨hi, hv⟩ := hi
    have hal := str_le' p.2 i
    have hvs : i < p.2.length → (valF b (p.2.getD i [])).2 = true → ∀ j, j < i + 1 → (valF b (p.2.getD j [])).2 = true := fun _ h j hj => by
      rcases Nat.lt_or_ge j i with h' | h'
      · exact hv j h'
      · have : j = i := by omega
        rw [this]; exact h
    repeat' first
      | contradiction | exact trivial
      | (conv => whnf
         first | refine Need.mk (fun h => h) ?_ | refine Need.mk rfl ?_ | refine Need.mk ⟨rfl, Nat.le_of_ble_eq_true rfl⟩ ?_ | refine Need.mk (Nat.le_of_ble_eq_true rfl) ?_ | refine Need.fin ?_ | refine Need.mk ?_ ?_ | refine Ix.strsF rfl ?_ | refine Ix.strs rfl ?_ ?_ | refine Cut.strs rfl ?_ ?_ | refine Ix.mapF (fun _ => rfl) ?_ | refine Ix.map (fun _ => rfl) ?_ ?_ | refine Cut.map (fun _ => rfl) ?_ ?_ | refine Fork.yes (by assumption) ?_ | refine Fork.no (by assumption) ?_ | refine Fork.decYes (by omega) ?_ | refine Fork.decNo (by omega) ?_ | refine Fork.dec (fun _ => ?_) (fun _ => ?_) | refine Fork.bne (fun _ => ?_) (fun _ => ?_) | refine Fork.beq (fun _ => ?_) (fun _ => ?_) | refine Fork.seq (fun _ => ?_) (fun _ => ?_) | refine Fork.sne (fun _ => ?_) (fun _ => ?_) | refine Fork.neg (fun _ => ?_) (fun _ => ?_) | refine Fork.mk (fun _ => ?_) (fun _ => ?_) | refine GFork.fork (.val (.bool false)) (fun hgf => ?_) (fun hgf => ?_) | refine HAlt.mk ?_ ?_ | apply HJoin.mk3 | exact HEnd.mk rfl rfl rfl | refine HEnd.mk ?_ ?_ ?_ | refine Round.mk ?_ | refine NilQ.mk (fun b hb => ?_) | refine forceK_of ?_ | refine forceBx_of ?_ | refine unG_old ?_ | refine unG_gv ?_ | refine Lit.read rfl ?_ | refine LitO.own rfl ?_ | refine FinVal.keep ?_ | refine FinAgg.deep ?_ | refine Final.mk rfl rfl | refine Final.mk ?_ rfl | refine Final.mk ?_ ?_ | refine FinalT.mk ?_ ?_ | refine FinalI.mk ?_ | refine FinalC.allA ?_ | refine ACall.scalA _ _ (pValueOf.ret _ _ ?_ ?_) rfl ?_ | refine AQCall.mkA _ _ (fun hg => pValueOf.ret _ _ ?_ ?_) rfl ?_ | refine AGCall.mkA _ _ (fun hg => pValueOf.ret _ _ ?_ ?_) rfl ?_)
      | refine AV.bool_congr ?_ | refine AV.int_congr ?_ | refine AV.str_congr ?_ | refine AV.list_congr ?_ | with_reducible rfl | refine fr1 ?_ | refine fr2 ?_ ?_
    all_goals try simp only [length_rows, length_strs, length_oldLL, List.length_map, Int.toNat_natCast] at *
    · exact h2
    · omega
    · rw [ins_none (vals_no (i := i) (by omega) ‹(valF b (p.2.getD i [])).2 = false›)]
      conv => whnf
      exact own_fct0 false
    · rw [part_len (sz := 1) rfl (strs_sz _) (by simp; omega)]; simp; omega
    · refine ⟨i + 1, ⟨by omega, hvs (by omega) ‹(valF b (p.2.getD i [])).2 = true›⟩, ?_, by omega⟩
      refine ⟨?_, ?_, rfl, Nat.le_of_ble_eq_true rfl, Or.inl (Nat.le_of_ble_eq_true rfl)⟩
      · repeat' first
          | exact trivial | refine Weak.mk ?_ ?_ ?_ ?_ (Or.inl (Nat.le_of_ble_eq_true rfl)) | refine Weak.mk ?_ ?_ ?_ ?_ (Or.inr ⟨(by repeat' first | exact trivial | exact Nat.le_of_ble_eq_true rfl | refine And.intro ?_ ?_), (by repeat' first | exact trivial | exact Nat.le_of_ble_eq_true rfl | refine And.intro ?_ ?_)⟩) | refine Weak.mk ?_ ?_ ?_ ?_ ?_ | refine And.intro ?_ ?_ | with_reducible rfl | exact Nat.le_of_ble_eq_true rfl | refine fr1 ?_ | refine fr2 ?_ ?_ | refine AV.int_congr ?_ | refine AV.bool_congr ?_ | refine AV.str_congr ?_ | refine AV.list_congr ?_ | refine AV.bsl_congr ?_ ?_ | (apply rfl)
        rw [wrap64 (by omega) (by omega)]; rfl
      · have := part_set (z := [.str []]) (sz := 1) rfl (strs_sz (p.2.map fun t => (valF b t).1)) (strs_get (l := (p.2.map fun t => (valF b t).1)) (i := i) (by simp; omega))
        have e : (p.2.map fun t => (valF b t).1).getD i [] = (valF b (p.2.getD i [])).1 := by
          have : i < p.2.length := by omega
          simp [List.getD, this]
        rw [e] at this
        simp only [List.set_cons_succ, List.set_cons_zero, List.take_succ_cons, List.take_zero, List.length_cons, List.length_nil, Int.toNat_natCast, this]
    · rw [ins_some hg (vals_all (fun j hj => hv j (by omega)))]
      have hil : i = p.2.length := by omega
      subst hil
      have hall := part_all [.str []] (strs (p.2.map fun t => (valF b t).1))
      rw [length_strs, List.length_map] at hall
      conv => whnf
      refine FreezeD.flat (Freeze.mk (strs (p.2.map fun t => (valF b t).1)) _ 9 1 rfl hall (by simp) (strs_sz _) (fun c hc => ?_) ?_)
      · rw [hall, strs_flatten] at hc
        obtain ⟨s, _, rfl⟩ := List.mem_map.1 hc; rfl
      conv => whnf
      refine FinVal.keep ?_
      exact own_fctb (k := 0) true (by simp)
  · rename_i hg
    refine ALoop.mk Nat (fun i => ⟨[(0, .agg (oldL (tPattern.q p))), (1, .list none (pairs b)), (2, .bptr 0 0), (4, .bptr 1 0), (6, .bptr 2 0), (28, .list none (strs p.2)), (29, .val (.int .i64 p.2.length)), (30, .val (.int .i64 i))], [.cells .var (oldL (tPattern.q p)), .cells .var [.str [], .val (.slice none 0 0)], .cells .var [.str p.1, .bsl 3 p.2.length], .cells (.row 9 1) (part [.str []] (strs (p.2.map fun t => (valF b t).1)) i)], []⟩)
      (fun i => i ≤ p.2.length ∧ ∀ j, j < i → (valF b (p.2.getD j [])).2 = true) (fun i => p.2.length - i) ⟨0, ⟨Nat.zero_le _, fun j hj => absurd hj (by omega)⟩, ?_⟩ (fun i hi => ?_)
    · repeat' first
        | exact trivial | refine Weak.mk ?_ ?_ ?_ ?_ (Or.inl (Nat.le_of_ble_eq_true rfl)) | refine Weak.mk ?_ ?_ ?_ ?_ (Or.inr ⟨(by repeat' first | exact trivial | exact Nat.le_of_ble_eq_true rfl | refine And.intro ?_ ?_), (by repeat' first | exact trivial | exact Nat.le_of_ble_eq_true rfl | refine And.intro ?_ ?_)⟩) | refine Weak.mk ?_ ?_ ?_ ?_ ?_ | refine And.intro ?_ ?_ | with_reducible rfl | exact Nat.le_of_ble_eq_true rfl | refine fr1 ?_ | refine fr2 ?_ ?_ | refine AV.int_congr ?_ | refine AV.bool_congr ?_ | refine AV.str_congr ?_ | refine AV.list_congr ?_ | refine AV.bsl_congr ?_ ?_ | (apply rfl)
      · simp
      · simp only [length_oldLL, List.length_map, Int.toNat_natCast]
        rw [part_made (xs := strs (p.2.map fun t => (valF b t).1)) (sz := 1) rfl (by decide) (by simp)]; rfl
    obtain ⟨hi, hv⟩ := hi
    have hal := str_le' p.2 i
    have hvs : i < p.2.length → (valF b (p.2.getD i [])).2 = true → ∀ j, j < i + 1 → (valF b (p.2.getD j [])).2 = true := fun _ h j hj => by
      rcases Nat.lt_or_ge j i with h' | h'
      · exact hv j h'
      · have : j = i := by omega
        rw [this]; exact h
    repeat' first
      | contradiction | exact trivial
      | (conv => whnf
         first | refine Need.mk (fun h => h) ?_ | refine Need.mk rfl ?_ | refine Need.mk ⟨rfl, Nat.le_of_ble_eq_true rfl⟩ ?_ | refine Need.mk (Nat.le_of_ble_eq_true rfl) ?_ | refine Need.fin ?_ | refine Need.mk ?_ ?_ | refine Ix.strsF rfl ?_ | refine Ix.strs rfl ?_ ?_ | refine Cut.strs rfl ?_ ?_ | refine Ix.mapF (fun _ => rfl) ?_ | refine Ix.map (fun _ => rfl) ?_ ?_ | refine Cut.map (fun _ => rfl) ?_ ?_ | refine Fork.yes (by assumption) ?_ | refine Fork.no (by assumption) ?_ | refine Fork.decYes (by omega) ?_ | refine Fork.decNo (by omega) ?_ | refine Fork.dec (fun _ => ?_) (fun _ => ?_) | refine Fork.bne (fun _ => ?_) (fun _ => ?_) | refine Fork.beq (fun _ => ?_) (fun _ => ?_) | refine Fork.seq (fun _ => ?_) (fun _ => ?_) | refine Fork.sne (fun _ => ?_) (fun _ => ?_) | refine Fork.neg (fun _ => ?_) (fun _ => ?_) | refine Fork.mk (fun _ => ?_) (fun _ => ?_) | refine GFork.fork (.val (.bool false)) (fun hgf => ?_) (fun hgf => ?_) | refine HAlt.mk ?_ ?_ | apply HJoin.mk3 | exact HEnd.mk rfl rfl rfl | refine HEnd.mk ?_ ?_ ?_ | refine Round.mk ?_ | refine NilQ.mk (fun b hb => ?_) | refine forceK_of ?_ | refine forceBx_of ?_ | refine unG_old ?_ | refine unG_gv ?_ | refine Lit.read rfl ?_ | refine LitO.own rfl ?_ | refine FinVal.keep ?_ | refine FinAgg.deep ?_ | refine Final.mk rfl rfl | refine Final.mk ?_ rfl | refine Final.mk ?_ ?_ | refine FinalT.mk ?_ ?_ | refine FinalI.mk ?_ | refine FinalC.allA ?_ | refine ACall.scalA _ _ (pValueOf.ret _ _ ?_ ?_) rfl ?_ | refine AQCall.mkA _ _ (fun hg => pValueOf.ret _ _ ?_ ?_) rfl ?_ | refine AGCall.mkA _ _ (fun hg => pValueOf.ret _ _ ?_ ?_) rfl ?_)
      | refine AV.bool_congr ?_ | refine AV.int_congr ?_ | refine AV.str_congr ?_ | refine AV.list_congr ?_ | with_reducible rfl | refine fr1 ?_ | refine fr2 ?_ ?_
    all_goals try simp only [length_rows, length_strs, length_oldLL, List.length_map, Int.toNat_natCast] at *
    · exact h2
    · omega
    · rw [ins_none (vals_no (i := i) (by omega) ‹(valF b (p.2.getD i [])).2 = false›)]
      conv => whnf
      exact own_fct0 false
    · rw [part_len (sz := 1) rfl (strs_sz _) (by simp; omega)]; simp; omega
    · refine ⟨i + 1, ⟨by omega, hvs (by omega) ‹(valF b (p.2.getD i [])).2 = true›⟩, ?_, by omega⟩
      refine ⟨?_, ?_, rfl, Nat.le_of_ble_eq_true rfl, Or.inl (Nat.le_of_ble_eq_true rfl)⟩
      · repeat' first
          | exact trivial | refine Weak.mk ?_ ?_ ?_ ?_ (Or.inl (Nat.le_of_ble_eq_true rfl)) | refine Weak.mk ?_ ?_ ?_ ?_ (Or.inr ⟨(by repeat' first | exact trivial | exact Nat.le_of_ble_eq_true rfl | refine And.intro ?_ ?_), (by repeat' first | exact trivial | exact Nat.le_of_ble_eq_true rfl | refine And.intro ?_ ?_)⟩) | refine Weak.mk ?_ ?_ ?_ ?_ ?_ | refine And.intro ?_ ?_ | with_reducible rfl | exact Nat.le_of_ble_eq_true rfl | refine fr1 ?_ | refine fr2 ?_ ?_ | refine AV.int_congr ?_ | refine AV.bool_congr ?_ | refine AV.str_congr ?_ | refine AV.list_congr ?_ | refine AV.bsl_congr ?_ ?_ | (apply rfl)
        rw [wrap64 (by omega) (by omega)]; rfl
      · have := part_set (z := [.str []]) (sz := 1) rfl (strs_sz (p.2.map fun t => (valF b t).1)) (strs_get (l := (p.2.map fun t => (valF b t).1)) (i := i) (by simp; omega))
        have e : (p.2.map fun t => (valF b t).1).getD i [] = (valF b (p.2.getD i [])).1 := by
          have : i < p.2.length := by omega
          simp [List.getD, this]
        rw [e] at this
        simp only [List.set_cons_succ, List.set_cons_zero, List.take_succ_cons, List.take_zero, List.length_cons, List.length_nil, Int.toNat_natCast, this]
    · rw [ins_some hg (vals_all (fun j hj => hv j (by omega)))]
      have hil : i = p.2.length := by omega
      subst hil
      have hall := part_all [.str []] (strs (p.2.map fun t => (valF b t).1))
      rw [length_strs, List.length_map] at hall
      conv => whnf
      refine FreezeD.flat (Freeze.mk (strs (p.2.map fun t => (valF b t).1)) _ 9 1 rfl hall (by simp) (strs_sz _) (fun c hc => ?_) ?_)
      · rw [hall, strs_flatten] at hc
        obtain ⟨s, _, rfl⟩ := List.mem_map.1 hc; rfl
      conv => whnf
      refine FinVal.keep ?_
      exact own_fctb (k := 0) true (by simp)
end Go.Proofs.Ytkbblglbbfdnpaa
namespace Go.Proofs.Ytkbblglbbfdnpaa
open Abs
theorem lookV_in : ∀ {b : List VPair} {k v : Str}, AscP b → (k, v) ∈ b → lookV b k = some v
  | p :: b, k, v, h, hm => by
    obtain ⟨h1, h2⟩ := List.pairwise_cons.1 h
    rw [lookV]
    rcases List.mem_cons.1 hm with rfl | hm
    · rw [if_pos rfl]
    · rw [if_neg fun e => ?_]
      · exact lookV_in h2 hm
      · have := h1 _ hm
        rw [e] at this
        exact absurd this (List.lt_irrefl _)
theorem val_atom {b : List VPair} {t : Str} (h : atomF t = true) : valF b t = (t, true) := by unfold valF; rw [if_pos h]
theorem val_var {b : List VPair} {t v : Str} (h : varF t = true) (hl : lookV b t = some v) : valF b t = (v, true) := by
  have ha : atomF t = false := by
    cases ha : atomF t with
    | false => rfl
    | true => rw [atom_novar ha] at h; cases h
  exact valF_hit ha h hl
theorem val_cases {b : List VPair} {t : Str} (h : (valF b t).2 = true) : (atomF t = true ∧ (valF b t).1 = t) ∨ (atomF t = false ∧ varF t = true ∧ lookV b t = some (valF b t).1) := by
  cases ha : atomF t with
  | true => exact .inl ⟨rfl, by rw [val_atom ha]⟩
  | false =>
    unfold valF at h ⊢
    rw [if_neg (by simp [ha])] at h ⊢
    split at h
    · rename_i hv
      rw [if_pos hv]
      cases hl : lookV b t with
      | none => rw [hl] at h; cases h
      | some v => exact .inr ⟨rfl, hv, rfl⟩
    · cases h
/-- what is bound already stays so -/
theorem extF_cases {b e : List VPair} {v x : Str} (h : extF b v x = some e) : bindF b = true ∧ varF v = true ∧ atomF x = true ∧ ((e = b ∧ valF b v = (x, true)) ∨ (e = setR v x b ∧ lookV b v = none)) := by
  unfold extF at h
  split at h
  · rename_i hc
    simp only [Bool.and_eq_true] at hc
    obtain ⟨⟨hb, hv⟩, hx⟩ := hc
    refine ⟨hb, hv, hx, ?_⟩
    split at h
    · rename_i h1
      cases h
      simp only [Bool.and_eq_true, decide_eq_true_eq] at h1
      exact .inl ⟨rfl, Prod.ext h1.2 h1.1⟩
    · split at h
      · cases h
      · rename_i h2
        cases h
        refine .inr ⟨rfl, ?_⟩
        simp only [Bool.or_eq_true, decide_eq_true_eq, not_or] at h2
        cases hl : lookV b v with
        | none => rfl
        | some u => exact absurd (by rw [val_var hv hl]) h2.1
  · cases h
theorem ext_self {b : List VPair} {v x : Str} (hb : bindF b = true) (hv : varF v = true) (hl : lookV b v = some x) : extF b v x = some b := by
  have hx : atomF x = true := (((bindF_iff b).1 hb).2.1 _ (lookV_mem hl)).2
  unfold extF
  rw [hb, hv, hx, val_var hv hl, if_pos (show (true && true && true) = true from rfl), if_pos (by simp)]
theorem look_set {b : List VPair} {v x k u : Str} (hb : AscP b) (hn : lookV b v = none) (hk : lookV b k = some u) : lookV (setR v x b) k = some u :=
  lookV_in (setR_asc hb (lookV_none hn)) (mem_setR.2 (.inr (lookV_mem hk)))
/-- one fact more matched: what is then known of the binding -/
theorem matS_spec : ∀ {l : List (Str × Str)} {b x : List VPair}, bindF b = true → matS b l = some x →
    bindF x = true ∧ (∀ k u, lookV b k = some u → lookV x k = some u) ∧ (∀ q ∈ l, valF x q.1 = (q.2, true)) ∧ ∀ p ∈ x, p ∈ b ∨ p.1 ∈ l.map (·.1)
  | [], b, x, hb, h => by cases h; exact ⟨hb, fun _ _ h => h, by simp, fun p hp => .inl hp⟩
  | q :: l, b, x, hb, h => by
    rw [matS] at h
    split at h
    · rename_i ha
      split at h
      · rename_i he
        obtain ⟨h1, h2, h3, h4⟩ := matS_spec hb h
        refine ⟨h1, h2, fun p hp => ?_, fun p hp => ?_⟩
        · rcases List.mem_cons.1 hp with rfl | hp
          · rw [val_atom ha, he]
          · exact h3 p hp
        · rcases h4 p hp with h | h
          · exact .inl h
          · exact .inr (by simp [h])
      · cases h
    · rename_i ha
      split at h
      · rename_i e he
        have hbe := extF_bind he
        obtain ⟨_, hv, hx, hor⟩ := extF_cases he
        obtain ⟨h1, h2, h3, h4⟩ := matS_spec hbe h
        have hb2 := ((bindF_iff b).1 hb).2.2
        have hq : lookV e q.1 = some q.2 := by
          rcases hor with ⟨rfl, hval⟩ | ⟨rfl, hn⟩
          · rcases val_cases (b := e) (t := q.1) (by rw [hval]) with ⟨h5, _⟩ | ⟨_, _, h5⟩
            · rw [h5] at ha; exact absurd rfl ha
            · rw [h5, hval]
          · exact lookV_in (setR_asc hb2 (lookV_none hn)) (mem_setR.2 (.inl rfl))
        refine ⟨h1, fun k u hk => h2 k u ?_, fun p hp => ?_, fun p hp => ?_⟩
        · rcases hor with ⟨rfl, _⟩ | ⟨rfl, hn⟩
          · exact hk
          · exact look_set hb2 hn hk
        · rcases List.mem_cons.1 hp with rfl | hp
          · exact val_var hv (h2 _ _ hq)
          · exact h3 p hp
        · rcases h4 p hp with h | h
          · rcases hor with ⟨rfl, _⟩ | ⟨rfl, hn⟩
            · exact .inl h
            · rcases mem_setR.1 h with rfl | h
              · exact .inr (by simp)
              · exact .inl h
          · exact .inr (by simp [h])
      · cases h
theorem matS_self : ∀ {l : List (Str × Str)} {b : List VPair}, bindF b = true → (∀ q ∈ l, valF b q.1 = (q.2, true)) → matS b l = some b
  | [], _, _, _ => rfl
  | q :: l, b, hb, h => by
    have h0 := h q (by simp)
    have ih := matS_self (l := l) hb fun p hp => h p (by simp [hp])
    rw [matS]
    rcases val_cases (b := b) (t := q.1) (by rw [h0]) with ⟨h1, h2⟩ | ⟨h1, h2, h3⟩
    · rw [if_pos h1, if_pos (by rw [h0] at h2; exact h2.symm)]; exact ih
    · rw [if_neg (by simp [h1]), ext_self hb h2 (by rw [h3, h0])]; exact ih
theorem valsF_of : ∀ {l m : List Str} {b : List VPair}, m.length = l.length → (∀ q ∈ l.zip m, valF b q.1 = (q.2, true)) → valsF b l = some m
  | [], m, b, h, _ => by
    have : m = [] := List.eq_nil_of_length_eq_zero (by simpa using h)
    subst this; rfl
  | t :: l, [], b, h, _ => by simp at h
  | t :: l, x :: m, b, h, hq => by
    have h0 := hq (t, x) (by simp)
    rw [valsF, h0, if_pos rfl, valsF_of (m := m) (by simpa using h) fun q hq' => hq q (by rw [List.zip_cons_cons]; exact List.mem_cons_of_mem _ hq')]
theorem matM_law {p : VPattern} {f : Fct} {b x : List VPair} (h : matM p f b = some x) :
    isPatF p = true ∧ isFactF f = true ∧ bindF b = true ∧ p.1 = f.1 ∧ p.2.length = f.2.length ∧ bindF x = true ∧ (∀ k u, lookV b k = some u → lookV x k = some u) ∧ (∀ q ∈ p.2.zip f.2, valF x q.1 = (q.2, true)) ∧
      (∀ q ∈ x, q ∈ b ∨ q.1 ∈ p.2) ∧ insF p x = some f ∧ matM p f x = some x := by
  unfold matM at h
  split at h
  · rename_i hc
    simp only [Bool.and_eq_true, decide_eq_true_eq] at hc
    obtain ⟨⟨⟨⟨h1, h2⟩, h3⟩, h4⟩, h5⟩ := hc
    obtain ⟨k1, k2, k3, k4⟩ := matS_spec h3 h
    refine ⟨h1, h2, h3, h4, h5, k1, k2, k3, fun q hq => ?_, ?_, ?_⟩
    · rcases k4 q hq with h | h
      · exact .inl h
      · rw [List.map_fst_zip (by omega)] at h; exact .inr h
    · unfold insF
      rw [h1, k1, if_pos (show (true && true) = true from rfl), valsF_of h5.symm k3, h4]
    · unfold matM
      rw [h1, h2, k1, decide_eq_true h4, decide_eq_true h5, if_pos (show (true && true && true && true && true) = true from rfl)]
      exact matS_self k1 k3
  · cases h
end Go.Proofs.Ytkbblglbbfdnpaa
namespace Go.Proofs.Ytkbblglbbfdnpaa
open Abs
theorem lpairs.ret (a b : List VPair) (h : tPairs.size a ≤ 1048576) : lpairs.Ret [.list none (pairs a), .list none (pairs b)] (.val (.bool (decide (a = b)))) [] := by
  refine lpairs.of rfl ?_
  rw [tPairs_sz] at h
  repeat' first
    | contradiction | exact trivial
    | (conv => whnf
       first | refine Need.mk (fun h => h) ?_ | refine Need.mk rfl ?_ | refine Need.mk ⟨rfl, Nat.le_of_ble_eq_true rfl⟩ ?_ | refine Need.mk (Nat.le_of_ble_eq_true rfl) ?_ | refine Need.fin ?_ | refine Need.mk ?_ ?_ | refine Ix.strsF rfl ?_ | refine Ix.strs rfl ?_ ?_ | refine Cut.strs rfl ?_ ?_ | refine Ix.mapF (fun _ => rfl) ?_ | refine Ix.map (fun _ => rfl) ?_ ?_ | refine Cut.map (fun _ => rfl) ?_ ?_ | refine Fork.yes (by assumption) ?_ | refine Fork.no (by assumption) ?_ | refine Fork.decYes (by omega) ?_ | refine Fork.decNo (by omega) ?_ | refine Fork.dec (fun _ => ?_) (fun _ => ?_) | refine Fork.bne (fun _ => ?_) (fun _ => ?_) | refine Fork.beq (fun _ => ?_) (fun _ => ?_) | refine Fork.seq (fun _ => ?_) (fun _ => ?_) | refine Fork.sne (fun _ => ?_) (fun _ => ?_) | refine Fork.neg (fun _ => ?_) (fun _ => ?_) | refine Fork.mk (fun _ => ?_) (fun _ => ?_) | refine GFork.fork (.val (.bool false)) (fun hgf => ?_) (fun hgf => ?_) | refine HAlt.mk ?_ ?_ | apply HJoin.mk3 | exact HEnd.mk rfl rfl rfl | refine HEnd.mk ?_ ?_ ?_ | refine Round.mk ?_ | refine NilQ.mk (fun b hb => ?_) | refine forceK_of ?_ | refine forceBx_of ?_ | refine unG_old ?_ | refine unG_gv ?_ | refine Lit.read rfl ?_ | refine LitO.own rfl ?_ | refine FinVal.keep ?_ | refine FinAgg.keep ?_ | refine Final.mk rfl rfl | refine Final.mk ?_ rfl | refine Final.mk ?_ ?_ | refine FinalT.mk ?_ ?_ | refine FinalI.mk ?_ | refine FinalC.allA ?_)
    | refine AV.bool_congr ?_ | refine AV.int_congr ?_ | refine AV.str_congr ?_ | refine AV.list_congr ?_ | with_reducible rfl | refine fr1 ?_ | refine fr2 ?_ ?_
  all_goals try simp only [length_rows] at *
  · rename_i hne
    rw [decide_eq_false (fun e => by subst e; omega)]
  rename_i hne
  have hl : a.length = b.length := by omega
  refine ALoop.mk Nat (fun i => ⟨[(0, .list none (pairs a)), (1, .list none (pairs b)), (5, .val (.int .i64 i))], [], []⟩) (fun i => i ≤ a.length ∧ a.take i = b.take i) (fun i => a.length - i) ⟨0, ⟨Nat.zero_le _, rfl⟩, ?_⟩ (fun i hi => ?_)
  · repeat' first
      | exact trivial | refine Weak.mk ?_ ?_ ?_ ?_ (Or.inl (Nat.le_of_ble_eq_true rfl)) | refine Weak.mk ?_ ?_ ?_ ?_ (Or.inr ⟨(by repeat' first | exact trivial | exact Nat.le_of_ble_eq_true rfl | refine And.intro ?_ ?_), (by repeat' first | exact trivial | exact Nat.le_of_ble_eq_true rfl | refine And.intro ?_ ?_)⟩) | refine Weak.mk ?_ ?_ ?_ ?_ ?_ | refine And.intro ?_ ?_ | with_reducible rfl | exact Nat.le_of_ble_eq_true rfl | refine fr1 ?_ | refine fr2 ?_ ?_ | refine AV.int_congr ?_ | refine AV.bool_congr ?_ | refine AV.str_congr ?_ | refine AV.list_congr ?_ | refine AV.bsl_congr ?_ ?_ | (apply rfl)
  repeat' first
    | contradiction | exact trivial
    | (conv => whnf
       first | refine Need.mk (fun h => h) ?_ | refine Need.mk rfl ?_ | refine Need.mk ⟨rfl, Nat.le_of_ble_eq_true rfl⟩ ?_ | refine Need.mk (Nat.le_of_ble_eq_true rfl) ?_ | refine Need.fin ?_ | refine Need.mk ?_ ?_ | refine Ix.strsF rfl ?_ | refine Ix.strs rfl ?_ ?_ | refine Cut.strs rfl ?_ ?_ | refine Ix.mapF (fun _ => rfl) ?_ | refine Ix.map (fun _ => rfl) ?_ ?_ | refine Cut.map (fun _ => rfl) ?_ ?_ | refine Fork.yes (by assumption) ?_ | refine Fork.no (by assumption) ?_ | refine Fork.decYes (by omega) ?_ | refine Fork.decNo (by omega) ?_ | refine Fork.dec (fun _ => ?_) (fun _ => ?_) | refine Fork.bne (fun _ => ?_) (fun _ => ?_) | refine Fork.beq (fun _ => ?_) (fun _ => ?_) | refine Fork.seq (fun _ => ?_) (fun _ => ?_) | refine Fork.sne (fun _ => ?_) (fun _ => ?_) | refine Fork.neg (fun _ => ?_) (fun _ => ?_) | refine Fork.mk (fun _ => ?_) (fun _ => ?_) | refine GFork.fork (.val (.bool false)) (fun hgf => ?_) (fun hgf => ?_) | refine HAlt.mk ?_ ?_ | apply HJoin.mk3 | exact HEnd.mk rfl rfl rfl | refine HEnd.mk ?_ ?_ ?_ | refine Round.mk ?_ | refine NilQ.mk (fun b hb => ?_) | refine forceK_of ?_ | refine forceBx_of ?_ | refine unG_old ?_ | refine unG_gv ?_ | refine Lit.read rfl ?_ | refine LitO.own rfl ?_ | refine FinVal.keep ?_ | refine FinAgg.keep ?_ | refine Final.mk rfl rfl | refine Final.mk ?_ rfl | refine Final.mk ?_ ?_ | refine FinalT.mk ?_ ?_ | refine FinalI.mk ?_ | refine FinalC.allA ?_)
    | refine AV.bool_congr ?_ | refine AV.int_congr ?_ | refine AV.str_congr ?_ | refine AV.list_congr ?_ | with_reducible rfl | refine fr1 ?_ | refine fr2 ?_ ?_
  · rename_i h1 h2
    simp only [length_rows, Int.toNat_natCast, Bool.and_true] at h1 h2
    refine (decide_eq_false fun e => ?_).symm
    subst e
    simp at h2
  · rename_i h1 h2
    simp only [length_rows, Int.toNat_natCast, Bool.and_true, Bool.and_eq_true, beq_iff_eq] at h1 h2
    refine ⟨i + 1, ⟨by omega, ?_⟩, ?_, by omega⟩
    · rw [take_succ' default (by omega : i < a.length), take_succ' default (by omega : i < b.length), hi.2, show a.getD i default = b.getD i default from Prod.ext h2.1 h2.2]
    · repeat' first
        | exact trivial | refine Weak.mk ?_ ?_ ?_ ?_ (Or.inl (Nat.le_of_ble_eq_true rfl)) | refine Weak.mk ?_ ?_ ?_ ?_ (Or.inr ⟨(by repeat' first | exact trivial | exact Nat.le_of_ble_eq_true rfl | refine And.intro ?_ ?_), (by repeat' first | exact trivial | exact Nat.le_of_ble_eq_true rfl | refine And.intro ?_ ?_)⟩) | refine Weak.mk ?_ ?_ ?_ ?_ ?_ | refine And.intro ?_ ?_ | with_reducible rfl | exact Nat.le_of_ble_eq_true rfl | refine fr1 ?_ | refine fr2 ?_ ?_ | refine AV.int_congr ?_ | refine AV.bool_congr ?_ | refine AV.str_congr ?_ | refine AV.list_congr ?_ | refine AV.bsl_congr ?_ ?_ | (apply rfl)
      rw [wrap64 (by omega) (by omega)]; rfl
  · rename_i h1
    rw [length_rows] at h1
    have h2 := hi.2
    rw [List.take_of_length_le (by omega), List.take_of_length_le (by omega)] at h2
    exact (decide_eq_true h2).symm
theorem fct_size {f : Fct} (h : fctB f) : tFct.size f ≤ 1048576 := by
  obtain ⟨h1, h2, h3⟩ := h
  rw [tFct_size, tStrs_size]
  have := list_bd h3
  omega
end Go.Proofs.Ytkbblglbbfdnpaa
namespace Go.Proofs.Ytkbblglbbfdnpaa
open Abs
theorem restF_all {x : List VPair} {vars : List Str} (h : ∀ q ∈ x, q.1 ∈ vars) : restF x vars = x := List.filter_eq_self.2 fun q hq => by simpa using h q hq
theorem atom_le8 {s : Str} (hs : atomF s = true) : s.length ≤ 8 := by
  unfold atomF at hs
  simp only [Bool.and_eq_true, decide_eq_true_eq] at hs
  omega
theorem var_le {s : Str} (hs : varF s = true) : s.length ≤ 10 := by
  unfold varF at hs
  rw [Bool.and_eq_true] at hs
  have := atom_le8 hs.2
  rw [List.length_drop] at this
  omega
theorem bind_sz {x : List VPair} (h : bindF x = true) : tPairs.size x ≤ 1048576 := by
  obtain ⟨h1, h2, _⟩ := (bindF_iff x).1 h
  exact pairs_szB ⟨by omega, fun p hp => ⟨var_le (h2 p hp).1, Nat.le_trans (atom_le8 (h2 p hp).2) (by decide)⟩⟩
theorem vs_mem {l : List Str} {s : Str} : s ∈ vs l ↔ s ∈ l ∧ varF s = true := by simp [vs]
set_option maxHeartbeats 4000000 in
theorem lawMatched.ret (l : List Int) (hb : l.length ≤ 9223372036854775807 ∧ ∀ a ∈ l, tByte.bd a) : lawMatched.RetN [.list none (rows tByte l)] (.val (.bool true)) [] := by
  refine lawMatched.ofS rfl rfl ?_
  have hg := Ret.weak (mo := false) (lbig.ret l hb.1)
  by_cases hl : 4096 < l.length
  · repeat' first
      | contradiction | exact trivial
      | (conv => whnf
         first | refine Need.mk (fun h => h) ?_ | refine Need.mk rfl ?_ | refine Need.mk ⟨rfl, Nat.le_of_ble_eq_true rfl⟩ ?_ | refine Need.mk (Nat.le_of_ble_eq_true rfl) ?_ | refine Need.fin ?_ | refine Need.mk ?_ ?_ | refine Ix.strsF rfl ?_ | refine Ix.strs rfl ?_ ?_ | refine Cut.strs rfl ?_ ?_ | refine Ix.mapF (fun _ => rfl) ?_ | refine Ix.map (fun _ => rfl) ?_ ?_ | refine Cut.map (fun _ => rfl) ?_ ?_ | refine Fork.yes (by assumption) ?_ | refine Fork.no (by assumption) ?_ | refine Fork.decYes (by omega) ?_ | refine Fork.decNo (by omega) ?_ | refine Fork.dec (fun _ => ?_) (fun _ => ?_) | refine Fork.bne (fun _ => ?_) (fun _ => ?_) | refine Fork.beq (fun _ => ?_) (fun _ => ?_) | refine Fork.seq (fun _ => ?_) (fun _ => ?_) | refine Fork.sne (fun _ => ?_) (fun _ => ?_) | refine Fork.neg (fun _ => ?_) (fun _ => ?_) | refine Fork.mk (fun _ => ?_) (fun _ => ?_) | refine GFork.fork (.val (.bool false)) (fun hgf => ?_) (fun hgf => ?_) | refine HAlt.mk ?_ ?_ | apply HJoin.mk3 | exact HEnd.mk rfl rfl rfl | refine HEnd.mk ?_ ?_ ?_ | refine Round.mk ?_ | refine NilQ.mk (fun b hb => ?_) | refine forceK_of ?_ | refine forceBx_of ?_ | refine unG_old ?_ | refine unG_gv ?_ | refine Lit.read rfl ?_ | refine LitO.own rfl ?_ | refine FinVal.keep ?_ | refine FinAgg.keep ?_ | refine Final.mk rfl rfl | refine Final.mk ?_ rfl | refine Final.mk ?_ ?_ | refine FinalT.mk ?_ ?_ | refine FinalI.mk ?_ | refine FinalC.allA ?_ | refine ACall.scalA _ _ (hg) rfl ?_ | refine AQCall.mkA _ _ (fun hg => hg) rfl ?_ | refine AGCall.mkA _ _ (fun hg => hg) rfl ?_)
      | refine AV.bool_congr ?_ | refine AV.int_congr ?_ | refine AV.str_congr ?_ | refine AV.list_congr ?_ | with_reducible rfl | refine fr1 ?_ | refine fr2 ?_ ?_
  have hc : CurOk l 0 := ⟨Int.le_refl _, by omega, by omega, hb.2⟩
  repeat' first
    | contradiction | exact trivial
    | (conv => whnf
       first | refine Need.mk (fun h => h) ?_ | refine Need.mk rfl ?_ | refine Need.mk ⟨rfl, Nat.le_of_ble_eq_true rfl⟩ ?_ | refine Need.mk (Nat.le_of_ble_eq_true rfl) ?_ | refine Need.fin ?_ | refine Need.mk ?_ ?_ | refine Ix.strsF rfl ?_ | refine Ix.strs rfl ?_ ?_ | refine Cut.strs rfl ?_ ?_ | refine Ix.mapF (fun _ => rfl) ?_ | refine Ix.map (fun _ => rfl) ?_ ?_ | refine Cut.map (fun _ => rfl) ?_ ?_ | refine Fork.yes (by assumption) ?_ | refine Fork.no (by assumption) ?_ | refine Fork.decYes (by omega) ?_ | refine Fork.decNo (by omega) ?_ | refine Fork.dec (fun _ => ?_) (fun _ => ?_) | refine Fork.bne (fun _ => ?_) (fun _ => ?_) | refine Fork.beq (fun _ => ?_) (fun _ => ?_) | refine Fork.seq (fun _ => ?_) (fun _ => ?_) | refine Fork.sne (fun _ => ?_) (fun _ => ?_) | refine Fork.neg (fun _ => ?_) (fun _ => ?_) | refine Fork.mk (fun _ => ?_) (fun _ => ?_) | refine GFork.fork (.val (.bool false)) (fun hgf => ?_) (fun hgf => ?_) | refine HAlt.mk ?_ ?_ | apply HJoin.mk3 | exact HEnd.mk rfl rfl rfl | refine HEnd.mk ?_ ?_ ?_ | refine Round.mk ?_ | refine NilQ.mk (fun b hb => ?_) | refine forceK_of ?_ | refine forceBx_of ?_ | refine unG_old ?_ | refine unG_gv ?_ | refine Lit.read rfl ?_ | refine LitO.own rfl ?_ | refine FinVal.keep ?_ | refine FinAgg.keep ?_ | refine Final.mk rfl rfl | refine Final.mk ?_ rfl | refine Final.mk ?_ ?_ | refine FinalT.mk ?_ ?_ | refine FinalI.mk ?_ | refine FinalC.allA ?_ | refine ACall.scalA _ _ (hg) rfl ?_ | refine AQCall.mkA _ _ (fun hg => hg) rfl ?_ | refine AGCall.mkA _ _ (fun hg => hg) rfl ?_ | refine ACall.drt (DrawMatchFact.drt) (by assumption) (by repeat' first | exact SeesL.nil | refine SeesL.cons ?_ ?_ | exact SeesB.of0 (Sees0.val _) | exact SeesB.of0 (Sees0.str _) | exact SeesB.of0 (Sees0.olds _ _) | exact SeesB.of0 (Sees0.old _) | exact SeesB.of0 (Sees0.oldagg _) | exact SeesB.of0 Sees0.nil | exact Sees0.val _ | exact Sees0.str _ | exact Sees0.olds _ _ | exact Sees0.old _ | exact Sees0.oldagg _ | exact Sees0.nil | exact SeesB.of0 (Sees0.any _) | assumption | exact sees_gv _ _ _ (by assumption) (by first | assumption | exact BoxIn.last _ _ | exact BoxIn.more (BoxIn.last _ _) _) | refine SeesB.agg ?_ | refine Sees0.agg ?_ | exact SeesB.of0 (Sees0.clo SeesL.nil SeesL.nil) | exact Sees0.clo SeesL.nil SeesL.nil | exact SeesB.of0 (Sees0.list rfl) | exact Sees0.list rfl) (fun a hq => ?_))
    | refine AV.bool_congr ?_ | refine AV.int_congr ?_ | refine AV.str_congr ?_ | refine AV.list_congr ?_ | with_reducible rfl | refine fr1 ?_ | refine fr2 ?_ ?_
  obtain ⟨⟨r, ar⟩, ⟨rf, af⟩, b⟩ := a
  obtain ⟨q1, q2, q3⟩ := hq
  have q3 : pairsB b := q3
  have hsb := pairs_szB q3
  have hsp : tPattern.size (r, ar) ≤ 1048576 := fct_size q1
  have hsf : tFct.size (rf, af) ≤ 1048576 := fct_size q2
  have e1 := pMatchFact.own (r, ar) (rf, af) b hsp hsf hsb
  have e2 := Own.weak (mo := false) (sMatchFact.own (r, ar) (rf, af) b hsp hsf hsb)
  rw [← matM_eq] at e1
  cases hM : matM (r, ar) (rf, af) b with
  | none =>
    rw [hM] at e1 e2
    have hok : okT (.p [.l 50 2 (((none : Option (List VPair)).getD []).map tPair.q), .v (.bool (none : Option (List VPair)).isSome)]) = true := rfl
    repeat' first
      | contradiction | exact trivial
      | (conv => whnf
         first | refine Need.mk (fun h => h) ?_ | refine Need.mk rfl ?_ | refine Need.mk ⟨rfl, Nat.le_of_ble_eq_true rfl⟩ ?_ | refine Need.mk (Nat.le_of_ble_eq_true rfl) ?_ | refine Need.fin ?_ | refine Need.mk ?_ ?_ | refine Ix.strsF rfl ?_ | refine Ix.strs rfl ?_ ?_ | refine Cut.strs rfl ?_ ?_ | refine Ix.mapF (fun _ => rfl) ?_ | refine Ix.map (fun _ => rfl) ?_ ?_ | refine Cut.map (fun _ => rfl) ?_ ?_ | refine Fork.yes (by assumption) ?_ | refine Fork.no (by assumption) ?_ | refine Fork.decYes (by omega) ?_ | refine Fork.decNo (by omega) ?_ | refine Fork.dec (fun _ => ?_) (fun _ => ?_) | refine Fork.bne (fun _ => ?_) (fun _ => ?_) | refine Fork.beq (fun _ => ?_) (fun _ => ?_) | refine Fork.seq (fun _ => ?_) (fun _ => ?_) | refine Fork.sne (fun _ => ?_) (fun _ => ?_) | refine Fork.neg (fun _ => ?_) (fun _ => ?_) | refine Fork.mk (fun _ => ?_) (fun _ => ?_) | refine GFork.fork (.val (.bool false)) (fun hgf => ?_) (fun hgf => ?_) | refine HAlt.mk ?_ ?_ | apply HJoin.mk3 | exact HEnd.mk rfl rfl rfl | refine HEnd.mk ?_ ?_ ?_ | refine Round.mk ?_ | refine NilQ.mk (fun b hb => ?_) | refine forceK_of ?_ | refine forceBx_of ?_ | refine unG_old ?_ | refine unG_gv ?_ | refine Lit.read rfl ?_ | refine LitO.own rfl ?_ | refine FinVal.keep ?_ | refine FinAgg.keep ?_ | refine Final.mk rfl rfl | refine Final.mk ?_ rfl | refine Final.mk ?_ ?_ | refine FinalT.mk ?_ ?_ | refine FinalI.mk ?_ | refine FinalC.allA ?_ | refine ACall.oldA _ _ (e1) ?_ | refine AGCall.oldA _ _ (fun hg => e1) ?_ | refine ACall.oldA _ _ (e2) ?_ | refine AGCall.oldA _ _ (fun hg => e2) ?_)
      | refine AV.bool_congr ?_ | refine AV.int_congr ?_ | refine AV.str_congr ?_ | refine AV.list_congr ?_ | with_reducible rfl | refine fr1 ?_ | refine fr2 ?_ ?_
  | some x =>
    obtain ⟨k1, k2, k3, k4, k5, k6, k7, k8, k9, k10, k11⟩ := matM_law hM
    rw [hM] at e1 e2
    have hsx := bind_sz k6
    have hok : okT (.p [.l 50 2 (((some x).getD []).map tPair.q), .v (.bool (some x).isSome)]) = true := by
      rw [okT, okTL, show okT (.l 50 2 (((some x).getD []).map tPair.q)) = true from ok_list tPair _ x]; rfl
    have e3 := Own.weak (mo := false) (pInstance.own (r, ar) x hsp hsx)
    unfold insR at e3
    rw [k10] at e3
    have e4 := pMatchFact.own (r, ar) (rf, af) x hsp hsf hsx
    rw [← matM_eq, k11] at e4
    have e5 := Ret.weak (mo := false) (sCompareFacts.ret (rf, af) (rf, af) hsf hsf)
    have e6 := Ret.weak (mo := false) (lpairs.ret x x hsx)
    have e7 := Ret.weak (mo := false) (pIsBinding.ret x hsx)
    have e8 := Ret.weak (mo := false) (pVarsOf.ret (r, ar) hsp)
    rw [(cmpF_cmp.zero _ _).2 rfl] at e5
    rw [decide_eq_true rfl] at e6
    rw [k6] at e7
    have hbi := (bindF_iff b).1 k3
    have hxi := (bindF_iff x).1 k6
    have hb6 := hbi.1
    have hpl : (pairs b).length = b.length := length_rows _ _
    have har : ar.length ≤ 4 := q1.1
    have hva : (insAll blt (vs ar)).length ≤ ar.length := Nat.le_trans (insAll_len _) (by rw [vs]; exact List.length_filter_le _ _)
    have hmem : ∀ q ∈ x, q.1 ∈ insAll blt (vs ar) ++ b.map (·.1) := fun q hq => by
      rcases k9 q hq with h | h
      · exact List.mem_append_right _ (List.mem_map_of_mem h)
      · exact List.mem_append_left _ ((insAll_mem blt_sto _ _).2 (vs_mem.2 ⟨h, (hxi.2.1 q hq).1⟩))
    have hre := restF_all hmem
    have e10 := Own.weak (mo := false) (pRestrict.own x (insAll blt (vs ar) ++ b.map (·.1)) hsx (by rw [List.length_append, List.length_map]; omega))
    rw [hre] at e10
    repeat' first
      | contradiction | exact trivial
      | (conv => whnf
         first | refine Need.mk (fun h => h) ?_ | refine Need.mk rfl ?_ | refine Need.mk ⟨rfl, Nat.le_of_ble_eq_true rfl⟩ ?_ | refine Need.mk (Nat.le_of_ble_eq_true rfl) ?_ | refine Need.fin ?_ | refine Need.mk ?_ ?_ | refine Ix.strsF rfl ?_ | refine Ix.strs rfl ?_ ?_ | refine Cut.strs rfl ?_ ?_ | refine Ix.mapF (fun _ => rfl) ?_ | refine Ix.map (fun _ => rfl) ?_ ?_ | refine Cut.map (fun _ => rfl) ?_ ?_ | refine Fork.yes (by assumption) ?_ | refine Fork.no (by assumption) ?_ | refine Fork.decYes (by omega) ?_ | refine Fork.decNo (by omega) ?_ | refine Fork.dec (fun _ => ?_) (fun _ => ?_) | refine Fork.bne (fun _ => ?_) (fun _ => ?_) | refine Fork.beq (fun _ => ?_) (fun _ => ?_) | refine Fork.seq (fun _ => ?_) (fun _ => ?_) | refine Fork.sne (fun _ => ?_) (fun _ => ?_) | refine Fork.neg (fun _ => ?_) (fun _ => ?_) | refine Fork.mk (fun _ => ?_) (fun _ => ?_) | refine GFork.fork (.val (.bool false)) (fun hgf => ?_) (fun hgf => ?_) | refine HAlt.mk ?_ ?_ | apply HJoin.mk3 | exact HEnd.mk rfl rfl rfl | refine HEnd.mk ?_ ?_ ?_ | refine Round.mk ?_ | refine NilQ.mk (fun b hb => ?_) | refine forceK_of ?_ | refine forceBx_of ?_ | refine unG_old ?_ | refine unG_gv ?_ | refine Lit.read rfl ?_ | refine LitO.own rfl ?_ | refine FinVal.keep ?_ | refine FinAgg.keep ?_ | refine Final.mk rfl rfl | refine Final.mk ?_ rfl | refine Final.mk ?_ ?_ | refine FinalT.mk ?_ ?_ | refine FinalI.mk ?_ | refine FinalC.allA ?_ | refine ACall.oldA _ _ (e1) ?_ | refine AGCall.oldA _ _ (fun hg => e1) ?_ | refine ACall.oldA _ _ (e2) ?_ | refine AGCall.oldA _ _ (fun hg => e2) ?_)
      | refine AV.bool_congr ?_ | refine AV.int_congr ?_ | refine AV.str_congr ?_ | refine AV.list_congr ?_ | with_reducible rfl | refine fr1 ?_ | refine fr2 ?_ ?_
    all_goals try (exfalso; rename_i hx; simp at hx; done)
    repeat' first
      | contradiction | exact trivial
      | (conv => whnf
         first | refine Need.mk (fun h => h) ?_ | refine Need.mk rfl ?_ | refine Need.mk ⟨rfl, Nat.le_of_ble_eq_true rfl⟩ ?_ | refine Need.mk (Nat.le_of_ble_eq_true rfl) ?_ | refine Need.fin ?_ | refine Need.mk ?_ ?_ | refine Ix.strsF rfl ?_ | refine Ix.strs rfl ?_ ?_ | refine Cut.strs rfl ?_ ?_ | refine Ix.mapF (fun _ => rfl) ?_ | refine Ix.map (fun _ => rfl) ?_ ?_ | refine Cut.map (fun _ => rfl) ?_ ?_ | refine Fork.yes (by assumption) ?_ | refine Fork.no (by assumption) ?_ | refine Fork.decYes (by omega) ?_ | refine Fork.decNo (by omega) ?_ | refine Fork.dec (fun _ => ?_) (fun _ => ?_) | refine Fork.bne (fun _ => ?_) (fun _ => ?_) | refine Fork.beq (fun _ => ?_) (fun _ => ?_) | refine Fork.seq (fun _ => ?_) (fun _ => ?_) | refine Fork.sne (fun _ => ?_) (fun _ => ?_) | refine Fork.neg (fun _ => ?_) (fun _ => ?_) | refine Fork.mk (fun _ => ?_) (fun _ => ?_) | refine GFork.fork (.val (.bool false)) (fun hgf => ?_) (fun hgf => ?_) | refine HAlt.mk ?_ ?_ | apply HJoin.mk3 | exact HEnd.mk rfl rfl rfl | refine HEnd.mk ?_ ?_ ?_ | refine Round.mk ?_ | refine NilQ.mk (fun b hb => ?_) | refine forceK_of ?_ | refine forceBx_of ?_ | refine unG_old ?_ | refine unG_gv ?_ | refine Lit.read rfl ?_ | refine LitO.own rfl ?_ | refine FinVal.keep ?_ | refine FinAgg.keep ?_ | refine Final.mk rfl rfl | refine Final.mk ?_ rfl | refine Final.mk ?_ ?_ | refine FinalT.mk ?_ ?_ | refine FinalI.mk ?_ | refine FinalC.allA ?_ | refine ACall.oldA _ _ (e3) ?_ | refine AGCall.oldA _ _ (fun hg => e3) ?_)
      | refine AV.bool_congr ?_ | refine AV.int_congr ?_ | refine AV.str_congr ?_ | refine AV.list_congr ?_ | with_reducible rfl | refine fr1 ?_ | refine fr2 ?_ ?_
    repeat' first
      | contradiction | exact trivial
      | (conv => whnf
         first | refine Need.mk (fun h => h) ?_ | refine Need.mk rfl ?_ | refine Need.mk ⟨rfl, Nat.le_of_ble_eq_true rfl⟩ ?_ | refine Need.mk (Nat.le_of_ble_eq_true rfl) ?_ | refine Need.fin ?_ | refine Need.mk ?_ ?_ | refine Ix.strsF rfl ?_ | refine Ix.strs rfl ?_ ?_ | refine Cut.strs rfl ?_ ?_ | refine Ix.mapF (fun _ => rfl) ?_ | refine Ix.map (fun _ => rfl) ?_ ?_ | refine Cut.map (fun _ => rfl) ?_ ?_ | refine Fork.yes (by assumption) ?_ | refine Fork.no (by assumption) ?_ | refine Fork.decYes (by omega) ?_ | refine Fork.decNo (by omega) ?_ | refine Fork.dec (fun _ => ?_) (fun _ => ?_) | refine Fork.bne (fun _ => ?_) (fun _ => ?_) | refine Fork.beq (fun _ => ?_) (fun _ => ?_) | refine Fork.seq (fun _ => ?_) (fun _ => ?_) | refine Fork.sne (fun _ => ?_) (fun _ => ?_) | refine Fork.neg (fun _ => ?_) (fun _ => ?_) | refine Fork.mk (fun _ => ?_) (fun _ => ?_) | refine GFork.fork (.val (.bool false)) (fun hgf => ?_) (fun hgf => ?_) | refine HAlt.mk ?_ ?_ | apply HJoin.mk3 | exact HEnd.mk rfl rfl rfl | refine HEnd.mk ?_ ?_ ?_ | refine Round.mk ?_ | refine NilQ.mk (fun b hb => ?_) | refine forceK_of ?_ | refine forceBx_of ?_ | refine unG_old ?_ | refine unG_gv ?_ | refine Lit.read rfl ?_ | refine LitO.own rfl ?_ | refine FinVal.keep ?_ | refine FinAgg.keep ?_ | refine Final.mk rfl rfl | refine Final.mk ?_ rfl | refine Final.mk ?_ ?_ | refine FinalT.mk ?_ ?_ | refine FinalI.mk ?_ | refine FinalC.allA ?_ | refine ACall.oldA _ _ (e4) ?_ | refine AGCall.oldA _ _ (fun hg => e4) ?_ | refine ACall.scalA _ _ (e5) rfl ?_ | refine AQCall.mkA _ _ (fun hg => e5) rfl ?_ | refine AGCall.mkA _ _ (fun hg => e5) rfl ?_ | refine ACall.scalA _ _ (e6) rfl ?_ | refine AQCall.mkA _ _ (fun hg => e6) rfl ?_ | refine AGCall.mkA _ _ (fun hg => e6) rfl ?_ | refine ACall.scalA _ _ (e7) rfl ?_ | refine AQCall.mkA _ _ (fun hg => e7) rfl ?_ | refine AGCall.mkA _ _ (fun hg => e7) rfl ?_ | refine ACall.mkLA _ _ _ _ (e8) ?_)
      | refine AV.bool_congr ?_ | refine AV.int_congr ?_ | refine AV.str_congr ?_ | refine AV.list_congr ?_ | with_reducible rfl | refine fr1 ?_ | refine fr2 ?_ ?_
    all_goals try (exfalso; rename_i hx; simp at hx; done)
    refine ALoop.mk Nat (fun i => ⟨[(0, .list none (rows tByte l)), (3, .bptr 0 0), (4, .bptr 1 0), (5, .list none (pairs b)), (6, .list none (pairs x)), (10, .bptr 2 0), (14, .list (some 1) (strs (insAll blt (vs ar) ++ (b.take i).map (·.1)))), (15, .val (.int .i64 i))], [.cells .var (oldL (tPattern.q (r, ar))), .cells .var (oldL (tFct.q (rf, af))), .cells .var (oldL (tFct.q (rf, af)))], [(9, 1, (vs ar).length), (9, 1, (insAll blt (vs ar) ++ (b.take i).map (·.1)).length)]⟩) (fun i => i ≤ b.length) (fun i => b.length - i) ⟨0, Nat.zero_le _, ?_⟩ (fun i hi => ?_)
    · repeat' first
        | exact trivial | refine Weak.mk ?_ ?_ ?_ ?_ (Or.inl (Nat.le_of_ble_eq_true rfl)) | refine Weak.mk ?_ ?_ ?_ ?_ (Or.inr ⟨(by repeat' first | exact trivial | exact Nat.le_of_ble_eq_true rfl | refine And.intro ?_ ?_), (by repeat' first | exact trivial | exact Nat.le_of_ble_eq_true rfl | refine And.intro ?_ ?_)⟩) | refine Weak.mk ?_ ?_ ?_ ?_ ?_ | refine And.intro ?_ ?_ | with_reducible rfl | exact Nat.le_of_ble_eq_true rfl | refine fr1 ?_ | refine fr2 ?_ ?_ | refine AV.int_congr ?_ | refine AV.bool_congr ?_ | refine AV.str_congr ?_ | refine AV.list_congr ?_ | refine AV.bsl_congr ?_ ?_ | (apply rfl)
      all_goals first
        | (rw [List.take_zero, List.map_nil, List.append_nil]; rfl)
        | simp
    by_cases hi' : i < b.length
    rotate_left
    · rw [List.take_of_length_le (by omega)]
      have hn' : ¬ (i : Int) < ((pairs b).length : Int) := by rw [hpl]; omega
      repeat' first
        | contradiction | exact trivial
        | (conv => whnf
           first | refine Need.mk (fun h => h) ?_ | refine Need.mk rfl ?_ | refine Need.mk ⟨rfl, Nat.le_of_ble_eq_true rfl⟩ ?_ | refine Need.mk (Nat.le_of_ble_eq_true rfl) ?_ | refine Need.fin ?_ | refine Need.mk ?_ ?_ | refine Ix.strsF rfl ?_ | refine Ix.strs rfl ?_ ?_ | refine Cut.strs rfl ?_ ?_ | refine Ix.mapF (fun _ => rfl) ?_ | refine Ix.map (fun _ => rfl) ?_ ?_ | refine Cut.map (fun _ => rfl) ?_ ?_ | refine Fork.yes (by assumption) ?_ | refine Fork.no (by assumption) ?_ | refine Fork.decYes (by omega) ?_ | refine Fork.decNo (by omega) ?_ | refine Fork.dec (fun _ => ?_) (fun _ => ?_) | refine Fork.bne (fun _ => ?_) (fun _ => ?_) | refine Fork.beq (fun _ => ?_) (fun _ => ?_) | refine Fork.seq (fun _ => ?_) (fun _ => ?_) | refine Fork.sne (fun _ => ?_) (fun _ => ?_) | refine Fork.neg (fun _ => ?_) (fun _ => ?_) | refine Fork.mk (fun _ => ?_) (fun _ => ?_) | refine GFork.fork (.val (.bool false)) (fun hgf => ?_) (fun hgf => ?_) | refine HAlt.mk ?_ ?_ | apply HJoin.mk3 | exact HEnd.mk rfl rfl rfl | refine HEnd.mk ?_ ?_ ?_ | refine Round.mk ?_ | refine NilQ.mk (fun b hb => ?_) | refine forceK_of ?_ | refine forceBx_of ?_ | refine unG_old ?_ | refine unG_gv ?_ | refine Lit.read rfl ?_ | refine LitO.own rfl ?_ | refine FinVal.keep ?_ | refine FinAgg.keep ?_ | refine Final.mk rfl rfl | refine Final.mk ?_ rfl | refine Final.mk ?_ ?_ | refine FinalT.mk ?_ ?_ | refine FinalI.mk ?_ | refine FinalC.allA ?_ | refine ACall.oldA _ _ (e10) ?_ | refine AGCall.oldA _ _ (fun hg => e10) ?_ | refine ACall.scalA _ _ (e6) rfl ?_ | refine AQCall.mkA _ _ (fun hg => e6) rfl ?_ | refine AGCall.mkA _ _ (fun hg => e6) rfl ?_)
        | refine AV.bool_congr ?_ | refine AV.int_congr ?_ | refine AV.str_congr ?_ | refine AV.list_congr ?_ | with_reducible rfl | refine fr1 ?_ | refine fr2 ?_ ?_
    have hbm : b.getD i default ∈ b := by simp [List.getD, hi']
    have hv := (hbi.2.1 _ hbm).1
    have hlk := k7 _ _ (lookV_in hbi.2.2 hbm)
    have e9 := Ret.weak (mo := false) (pValueOf.ret x (b.getD i default).1 hsx (by have := var_le hv; omega))
    rw [val_var hv hlk] at e9
    have hy' : (i : Int) < ((pairs b).length : Int) := by rw [hpl]; omega
    have hvt : (strs (insAll blt (vs ar) ++ (b.take i).map (·.1))).length = (insAll blt (vs ar) ++ (b.take i).map (·.1)).length := length_strs _
    have hvl : (insAll blt (vs ar) ++ (b.take i).map (·.1)).length ≤ 20 := by rw [List.length_append, List.length_map, List.length_take]; omega
    repeat' first
      | contradiction | exact trivial
      | (conv => whnf
         first | refine Need.mk (fun h => h) ?_ | refine Need.mk rfl ?_ | refine Need.mk ⟨rfl, Nat.le_of_ble_eq_true rfl⟩ ?_ | refine Need.mk (Nat.le_of_ble_eq_true rfl) ?_ | refine Need.finN ?_ | refine Need.mk ?_ ?_ | refine Ix.strsN rfl ?_ | refine Ix.strs rfl ?_ ?_ | refine Cut.strs rfl ?_ ?_ | refine Ix.mapN (fun _ => rfl) ?_ | refine Ix.map (fun _ => rfl) ?_ ?_ | refine Cut.map (fun _ => rfl) ?_ ?_ | refine Fork.yes (by assumption) ?_ | refine Fork.no (by assumption) ?_ | refine Fork.decY ?_ | refine Fork.andY ?_ | refine Fork.andN ?_ | refine Fork.decN ?_ | refine Fork.dec (fun _ => ?_) (fun _ => ?_) | refine Fork.bne (fun _ => ?_) (fun _ => ?_) | refine Fork.beq (fun _ => ?_) (fun _ => ?_) | refine Fork.seq (fun _ => ?_) (fun _ => ?_) | refine Fork.sne (fun _ => ?_) (fun _ => ?_) | refine Fork.neg (fun _ => ?_) (fun _ => ?_) | refine Fork.mk (fun _ => ?_) (fun _ => ?_) | refine GFork.fork (.val (.bool false)) (fun hgf => ?_) (fun hgf => ?_) | refine HAlt.mk ?_ ?_ | apply HJoin.mk3 | exact HEnd.mk rfl rfl rfl | refine HEnd.mk ?_ ?_ ?_ | refine Round.mk ?_ | refine NilQ.mk (fun b hb => ?_) | refine forceK_of ?_ | refine forceBx_of ?_ | refine unG_old ?_ | refine unG_gv ?_ | refine Lit.read rfl ?_ | refine LitO.own rfl ?_ | refine FinVal.keep ?_ | refine FinAgg.keep ?_ | refine Final.mk rfl rfl | refine Final.mk ?_ rfl | refine Final.mk ?_ ?_ | refine FinalT.mk ?_ ?_ | refine FinalI.mk ?_ | refine FinalC.allA ?_ | refine ACall.scalA _ _ (e9) rfl ?_ | refine AQCall.mkA _ _ (fun hg => e9) rfl ?_ | refine AGCall.mkA _ _ (fun hg => e9) rfl ?_)
      | refine AV.bool_congr ?_ | refine AV.int_congr ?_ | refine AV.str_congr ?_ | refine AV.list_congr ?_ | with_reducible rfl | refine fr1 ?_ | refine fr2 ?_ ?_
    all_goals first
      | (intro c hc; rw [List.mem_singleton.1 hc]; rfl)
      | exact hvt.symm
      | (rw [hvt]; exact ⟨by simp only [List.length_cons, List.length_nil]; omega, by simp only [List.length_cons, List.length_nil]; omega⟩)
      | (intro _; omega)
      | skip
    refine ⟨i + 1, by omega, ?_, by omega⟩
    have htk : (b.take (i + 1)).map (·.1) = (b.take i).map (·.1) ++ [(b.getD i default).1] := by rw [take_succ' default hi', List.map_append]; rfl
    repeat' first
      | exact trivial | refine Weak.mk ?_ ?_ ?_ ?_ (Or.inl (Nat.le_of_ble_eq_true rfl)) | refine Weak.mk ?_ ?_ ?_ ?_ (Or.inr ⟨(by repeat' first | exact trivial | exact Nat.le_of_ble_eq_true rfl | refine And.intro ?_ ?_), (by repeat' first | exact trivial | exact Nat.le_of_ble_eq_true rfl | refine And.intro ?_ ?_)⟩) | refine Weak.mk ?_ ?_ ?_ ?_ ?_ | refine And.intro ?_ ?_ | with_reducible rfl | exact Nat.le_of_ble_eq_true rfl | refine fr1 ?_ | refine fr2 ?_ ?_ | refine AV.int_congr ?_ | refine AV.bool_congr ?_ | refine AV.str_congr ?_ | refine AV.list_congr ?_ | refine AV.bsl_congr ?_ ?_ | (apply rfl)
    all_goals first
      | (rw [htk, ← List.append_assoc]; exact str_step _ _)
      | (rw [wrap64 (by omega) (by omega)]; rfl)
      | (rw [htk, ← List.append_assoc, List.length_append, hvt]; rfl)
end Go.Proofs.Ytkbblglbbfdnpaa
namespace Go.Proofs.Ytkbblglbbfdnpaa
def headSigns : List Nat := [104, 97, 114, 110, 101, 115, 115, 32, 100, 97, 55, 54, 98, 102, 49, 54, 99, 52, 49, 54, 98, 99, 53, 48, 57, 102, 48, 102, 57, 52, 54, 98, 56, 48, 53, 100, 102, 56, 56, 53, 99, 51, 48, 50, 48, 99, 57, 99, 99, 98, 97, 100, 56, 97, 53, 99, 102, 57, 101, 54, 98, 48, 49, 100, 50, 50, 57, 57, 101, 98, 100, 100, 32, 99, 117, 116, 32, 97, 116, 32, 108, 111, 111, 112, 46, 101, 120, 97, 109, 112, 108, 101, 47, 103, 48, 51, 48, 49, 53, 47, 108, 97, 119, 115, 46, 70, 110, 70, 97, 99, 116, 83, 101, 116, 115, 32, 108, 111, 111, 112, 46, 101, 120, 97, 109, 112, 108, 101, 47, 103, 48, 51, 48, 49, 53, 47, 108, 97, 119, 115, 46, 70, 110, 70, 97, 99, 116, 79, 114, 100, 101, 114, 32, 108, 111, 111, 112, 46, 101, 120, 97, 109, 112, 108, 101, 47, 103, 48, 51, 48, 49, 53, 47, 108, 97, 119, 115, 46, 70, 110, 77, 97, 116, 99, 104, 101, 100, 32, 108, 111, 111, 112, 46, 101, 120, 97, 109, 112, 108, 101, 47, 103, 48, 51, 48, 49, 53, 47, 108, 97, 119, 115, 46, 70, 110, 78, 111, 116, 72, 97, 115]
theorem Abs.head : Try.prog.initOrder = String.ofList (headSigns.map Char.ofNat) := by kernel_rfl
theorem Abs.signs : Try.prog.initOrder.toList = headSigns.map Char.ofNat := by rw [Abs.head, String.toList_ofList]
def headWords : List (List Nat) := [[99, 117, 116], [97, 116], [108, 111, 111, 112, 46, 101, 120, 97, 109, 112, 108, 101, 47, 103, 48, 51, 48, 49, 53, 47, 108, 97, 119, 115, 46, 70, 110, 70, 97, 99, 116, 83, 101, 116, 115], [108, 111, 111, 112, 46, 101, 120, 97, 109, 112, 108, 101, 47, 103, 48, 51, 48, 49, 53, 47, 108, 97, 119, 115, 46, 70, 110, 70, 97, 99, 116, 79, 114, 100, 101, 114], [108, 111, 111, 112, 46, 101, 120, 97, 109, 112, 108, 101, 47, 103, 48, 51, 48, 49, 53, 47, 108, 97, 119, 115, 46, 70, 110, 77, 97, 116, 99, 104, 101, 100], [108, 111, 111, 112, 46, 101, 120, 97, 109, 112, 108, 101, 47, 103, 48, 51, 48, 49, 53, 47, 108, 97, 119, 115, 46, 70, 110, 78, 111, 116, 72, 97, 115]]
theorem Abs.words : behindMainWord (wordsSigns (headSigns.map Char.ofNat)) = headWords.map fun w => w.map Char.ofNat := by kernel_rfl
theorem Abs.heads : behindMainWord (wordsSigns Try.prog.initOrder.toList) = headWords.map fun w => w.map Char.ofNat := by rw [Abs.signs, Abs.words]
theorem enters_gen (P : Program) (h : behindMainWord (wordsSigns P.initOrder.toList) = headWords.map fun w => w.map Char.ofNat) (h1 : P.laysLater = false) (h2 : P.bearsReflect = false) (h3 : P.doorFits [] = true) : P.mayEnter = true := by
  have h4 : stripLifts liftWords (headWords.map fun w => w.map Char.ofNat) = ([], headWords.map fun w => w.map Char.ofNat) := by kernel_rfl
  have h5 : (headWords.map fun w => w.map Char.ofNat) = (headWords.headD []).map Char.ofNat :: (headWords.tail.map fun w => w.map Char.ofNat) := rfl
  unfold Program.mayEnter
  rw [h, h1, h2, h5]
  simp only []
  rw [← h5, h4]
  simp only []
  rw [h3]
  rfl
theorem final_gen (P : Program) (h : behindMainWord (wordsSigns P.initOrder.toList) = headWords.map fun w => w.map Char.ofNat) : P.liftsFinal = false := by
  unfold Program.liftsFinal Program.headLifts
  rw [h]
  kernel_rfl
theorem made_gen (P : Program) (h : behindMainWord (wordsSigns P.initOrder.toList) = headWords.map fun w => w.map Char.ofNat) : P.make = some .cut := by
  unfold Program.make
  rw [h]
  rfl
theorem Abs.enters : Try.prog.mayEnter = true := enters_gen _ Abs.heads (by kernel_rfl) (by kernel_rfl) (by kernel_rfl)
theorem Abs.final : Try.prog.liftsFinal = false := final_gen _ Abs.heads
theorem Abs.made : Try.prog.make = some .cut := made_gen _ Abs.heads
theorem Abs.rowed : mapsRowed Try.prog = true := by kernel_rfl
theorem Abs.laidOut : laidOutB Try.prog = true := by kernel_rfl
/-- the closed facts of a row, without what is known already -/
def joinedLess (P : Program) (f : FuncId) (fn : Func) (s : ChangeSpec) (c : OpenClaim) (h1 : P.mayEnter = true) (h2 : P.liftsFinal = false) (h3 : P.make = some .cut) (h4 : mapsRowed P = true) (h5 : laidOutB P = true) : {b : Bool // joinedFacts P f fn s c = b} := by
  refine ⟨?b, ?h⟩
  case h =>
    unfold joinedFacts
    rw [h1, h2, h3, h4, h5]
theorem Abs.closed {f : FuncId} {fn : Func} {s : ChangeSpec} {c : OpenClaim} (h : (joinedLess Try.prog f fn s c Abs.enters Abs.final Abs.made Abs.rowed Abs.laidOut).1 = true) : joinedFacts Try.prog f fn s c = true :=
  (joinedLess Try.prog f fn s c Abs.enters Abs.final Abs.made Abs.rowed Abs.laidOut).2.trans h
end Go.Proofs.Ytkbblglbbfdnpaa
namespace Go.Proofs.Ytkbblglbbfdnpaa
namespace Abs
open Go.ChangeShapes Go.WideShapes Go.RowKit
def clF (P : Program) (g : TypeId → Option (List Cl)) : Nat → List Field → Option (List Cl)
  | _, [] => some []
  | off, f :: fs => match g f.type with
    | some cs => if f.offset = off ∧ cs.length = P.cellsOf f.type then
        (match clF P g (off + cs.length) fs with | some r => some (cs ++ r) | none => none) else none
    | none => none
def clOf (P : Program) : Nat → TypeId → Option (List Cl)
  | 0, _ => none
  | n + 1, t => match P.underlying t with
    | some .string => some [.str]
    | some .bool => some [.bool]
    | some (.int k) => some [.int k]
    | some (.slice e) => match clOf P n e with
      | some cs => if cs.length = P.cellsOf e ∧ 0 < P.cellsOf e then some [.sl e (P.cellsOf e) cs] else none
      | none => none
    | some (.struct fs) => match clF P (clOf P n) 0 fs.toList with
      | some cs => if cs.length = P.cellsOf t then some cs else none
      | none => none
    | _ => none
theorem Both.app {R : AV → Value → Prop} {xs ys : List AV} {us vs : List Value} (h : Both R xs us) (h' : Both R ys vs) : Both R (xs ++ ys) (us ++ vs) := by
  refine ⟨by simp [h.1, h'.1], fun i x v hx hv => ?_⟩
  rw [List.getElem?_append] at hx hv
  rw [h.1] at hx
  split at hx
  · rename_i hi; rw [if_pos hi] at hv; exact h.2 i x v hx hv
  · rename_i hi; rw [if_neg hi] at hv; exact h'.2 _ x v hx hv
/-- the cells of all blocks that are there -/
def allF (w : World) (b : Nat) : Nat := match w.heap[b]? with | some (.cells c _ _) => c.size | _ => 0
theorem allF_out (w : World) (b : Nat) (h : w.heap.size ≤ b) : allF w b = 0 := by
  unfold allF; rw [Array.getElem?_eq_none h]
section
variable {H : Type} {enc : TypeId × Value → H} {P : Program} {w : World} {base : Nat} {spare : Nat → Bool} {held : Bool}
def Opens (B : Nat) (w : World) (cls : List Cl) (cs : List Value) : Prop :=
  ∃ trs, FitsL cls trs ∧ Both (Rep B w (allF w) [] [] []) (oldL trs) cs ∧ ∀ v ∈ cs, v.oneCell' = true
theorem Opens.one {B : Nat} {cl : Cl} {v : Value} (x : Tr) (h : FitsL [cl] [x]) (hr : Rep B w (allF w) [] [] [] (old x) v) (h1 : v.oneCell' = true) : Opens B w [cl] [v] :=
  ⟨[x], h, Both.cons.2 ⟨hr, rfl, by simp [oldL]⟩, by simp [h1]⟩
theorem open_fields {fuel : Nat} {cs : List Value} (B : Nat) (g : TypeId → Option (List Cl))
    (ih : ∀ t cs x cls, g t = some cls → DataW.trod enc P w base spare held fuel t cs = some x → Opens B w cls cs) :
    ∀ (fs : List Field) (off : Nat) (cls : List Cl), clF P g off fs = some cls → (∀ f ∈ fs, ∃ x, DataW.trod enc P w base spare held fuel f.type ((cs.drop f.offset).take (P.cellsOf f.type)) = some x) →
      Opens B w cls ((cs.drop off).take cls.length)
  | [], off, cls, h, _ => by
    simp only [clF, Option.some.injEq] at h
    subst h
    exact ⟨[], .nil, by simp [Both, oldL], by simp⟩
  | f :: fs, off, cls, h, hx => by
    unfold clF at h
    cases hg : g f.type with
    | none => rw [hg] at h; cases h
    | some c =>
      rw [hg] at h
      simp only at h
      split at h
      · rename_i hc
        obtain ⟨rfl, hc⟩ := hc
        cases hr : clF P g (f.offset + c.length) fs with
        | none => rw [hr] at h; cases h
        | some r =>
          rw [hr] at h
          simp only [Option.some.injEq] at h
          subst h
          obtain ⟨x, hx1⟩ := hx f (by simp)
          obtain ⟨t1, f1, b1, o1⟩ := ih _ _ _ _ hg hx1
          obtain ⟨t2, f2, b2, o2⟩ := open_fields B g ih fs _ r hr (fun f' hf' => hx f' (by simp [hf']))
          have hsplit : (cs.drop f.offset).take (c ++ r).length = (cs.drop f.offset).take c.length ++ (cs.drop (f.offset + c.length)).take r.length := by
            rw [List.length_append, List.take_add, List.drop_drop]
          rw [hsplit, hc]
          rw [hc] at b2 o2
          refine ⟨t1 ++ t2, f1.append f2, ?_, fun v hv => ?_⟩
          · rw [oldL_eq, List.map_append, ← oldL_eq, ← oldL_eq]; exact b1.app b2
          · rcases List.mem_append.1 hv with h | h
            · exact o1 v h
            · exact o2 v h
      · cases h
theorem open_cells (B : Nat) : ∀ (n fuel : Nat) (t : TypeId) (cs : List Value) (x : DataW H × List MemPlace) (cls : List Cl), clOf P n t = some cls → DataW.trod enc P w base spare held fuel t cs = some x → Opens B w cls cs
  | 0, _, _, _, _, _, h, _ => by cases h
  | n + 1, fuel, t, cs, x, cls, h, hx => by
    unfold clOf at h
    cases ht : P.underlying t with
    | none => rw [ht] at h; cases h
    | some u =>
      rw [ht] at h
      cases u with
      | string =>
        simp only [Option.some.injEq] at h; subst h
        obtain ⟨s, rfl, _, hs⟩ := DataW.trod_string ht hx
        exact Opens.one (.s s.data.toList) (.str _ hs .nil) (rep_string s) rfl
      | bool =>
        simp only [Option.some.injEq] at h; subst h
        cases fuel with
        | zero => simp [DataW.trod] at hx
        | succ m =>
          unfold DataW.trod at hx
          rw [ht] at hx
          split at hx <;> simp_all
          exact Opens.one (.v (.bool _)) (.bool _ .nil) (.val _) rfl
      | int k =>
        simp only [Option.some.injEq] at h; subst h
        obtain ⟨m, rfl, _, hm⟩ := DataW.trod_int ht hx
        exact Opens.one (.v (.int k m)) (.int _ _ hm .nil) (.val _) rfl
      | slice e =>
        simp only at h
        cases hc : clOf P n e with
        | none => rw [hc] at h; cases h
        | some c =>
          rw [hc] at h
          simp only at h
          split at h
          · rename_i hsz
            obtain ⟨hsz, hpos⟩ := hsz
            simp only [Option.some.injEq] at h; subst h
            rcases Go.Deep.open_slice ht hx with ⟨rfl, _⟩ | ⟨a, len, cap, m, k, D, Pl, rfl, _, hl, hm, hmm, _, hel⟩
            · refine Opens.one (.l e (P.cellsOf e) []) (.sl _ _ _ [] (Nat.zero_le _) hsz (by simp) .nil) ?_ rfl
              exact .list none [] none 0 0 0 0 (fun _ _ => undef) (Nat.le_refl _) (fun h => absurd rfl h) (by simp) (fun h => absurd rfl h) (by simp) (by simp) (fun k hk => by cases hk)
            · have hlm : len ≤ m := by rw [hmm]; split <;> omega
              obtain ⟨T, hT⟩ := Go.Deep.choose_lt (α := List Value × List Tr) (n := len) (p := fun i q => w.cells? base (a.add (i * P.cellsOf e)) (P.cellsOf e) = some q.1 ∧ FitsL c q.2 ∧
                  Both (Rep B w (allF w) [] [] []) (oldL q.2) q.1 ∧ ∀ v ∈ q.1, v.oneCell' = true) (fun i hi => by
                obtain ⟨cs', h1, h2⟩ := hel i (by omega)
                obtain ⟨trs, h3, h4, h5⟩ := open_cells B n k e cs' _ c hc h2
                exact ⟨(cs', trs), h1, h3, h4, h5⟩)
              have hlen : ((List.range len).map fun i => (T i).2).length = len := by simp
              refine Opens.one (.l e (P.cellsOf e) ((List.range len).map fun i => (T i).2)) (.sl _ _ _ _ (by rw [hlen]; omega) hsz (fun x hx => ?_) .nil) ?_ rfl
              · obtain ⟨i, hi, rfl⟩ := List.mem_map.1 hx
                exact (hT i (List.mem_range.1 hi)).2.1
              · have hol : (oldLL ((List.range len).map fun i => (T i).2)).length = len := by rw [length_oldLL, hlen]
                have hget : ∀ i e', (oldLL ((List.range len).map fun i => (T i).2))[i]? = some e' → i < len ∧ e' = oldL (T i).2 := by
                  intro i e' he
                  have hi : i < len := by have := getElem?_lt he; omega
                  rw [oldLL_eq] at he
                  simp [hi] at he
                  exact ⟨hi, by rw [oldL_eq]; exact he.symm⟩
                have hlenT : ∀ i, i < len → (oldL (T i).2).length = P.cellsOf e := fun i hi => by rw [oldL_eq, List.length_map, (hT i hi).2.1.length, hsz]
                have hcell : ∀ i j, i < len → j < P.cellsOf e → w.cell? ⟨a.block, a.off + i * P.cellsOf e + j, none⟩ = (T i).1[j]? ∧ a.spot = none := by
                  intro i j hi hj
                  obtain ⟨_, hl', hc'⟩ := World.cells?_some (hT i hi).1
                  have h0 : a.spot = none := by
                    obtain ⟨_, hl0, hc0⟩ := World.cells?_some (hT 0 (by omega)).1
                    have := hc0 0 hpos
                    rw [List.getElem?_eq_getElem (by omega)] at this
                    simp only [Nat.zero_mul, Addr.add, if_true] at this
                    unfold World.cell? at this
                    cases hs : a.spot with
                    | none => rfl
                    | some _ => rw [hs] at this; split at this <;> simp at this
                  refine ⟨?_, h0⟩
                  rw [← hc' j hj, Go.Deep.add_add]
                  unfold Addr.add
                  split
                  · rename_i hz
                    rw [show a.off + i * P.cellsOf e + j = a.off by omega]
                    cases a; simp only at h0; subst h0; rfl
                  · rw [Nat.add_assoc]
                have hrep := Rep.list (B := B) (w := w) (F := allF w) (tok := []) (fr := []) (box := []) none (oldLL ((List.range len).map fun i => (T i).2)) (some a) cap (P.cellsOf e) a.block a.off
                  (fun i j => (T i).1.getD j undef) (by rw [hol]; exact hl)
                  (fun hne => by
                    have : 0 < len := by
                      rcases Nat.eq_zero_or_pos len with h0 | h0
                      · subst h0; exact absurd rfl hne
                      · exact h0
                    have := (hcell 0 0 this hpos).2
                    cases a; simp only at this; subst this; rfl)
                  (fun e' he' => by
                    obtain ⟨i, hi⟩ := List.getElem?_of_mem he'
                    obtain ⟨h1, h2⟩ := hget i e' hi
                    rw [h2]; exact hlenT i h1)
                  (fun hne => by
                    have h0 : 0 < len := by
                      rcases Nat.eq_zero_or_pos len with h0 | h0
                      · subst h0; exact absurd rfl hne
                      · exact h0
                    rw [hol]
                    have hc := (hcell (len - 1) (P.cellsOf e - 1) (by omega) (by omega)).1
                    have hl1 : (T (len - 1)).1.length = P.cellsOf e := (World.cells?_some (hT (len - 1) (by omega)).1).2.1
                    rw [List.getElem?_eq_getElem (by omega)] at hc
                    unfold World.cell? at hc
                    unfold allF
                    simp only at hc
                    split at hc
                    · simp only [Option.isSome_none, Bool.false_eq_true, if_false] at hc
                      have hlt := (Array.getElem?_eq_some_iff.1 hc).1
                      have hmul : (len - 1) * P.cellsOf e + P.cellsOf e = len * P.cellsOf e := by
                        obtain ⟨q, rfl⟩ : ∃ q, len = q + 1 := ⟨len - 1, by omega⟩
                        rw [Nat.add_sub_cancel, Nat.add_mul]; omega
                      rename_i he
                      rw [he]
                      simp only
                      omega
                    · cases hc)
                  (fun i e' j c' hi hj => by
                    obtain ⟨h1, rfl⟩ := hget i e' hi
                    have hj' := getElem?_lt hj
                    rw [hlenT i h1] at hj'
                    have hl1 : (T i).1.length = P.cellsOf e := (World.cells?_some (hT i h1).1).2.1
                    have hg : (T i).1[j]? = some ((T i).1.getD j undef) := by simp [List.getD, hl1, hj']
                    exact ⟨by rw [(hcell i j h1 hj').1, hg], (hT i h1).2.2.2 _ (List.mem_of_getElem? hg)⟩)
                  (fun i e' j c' hi hj => by
                    obtain ⟨h1, rfl⟩ := hget i e' hi
                    have hj' := getElem?_lt hj
                    rw [hlenT i h1] at hj'
                    have hl1 : (T i).1.length = P.cellsOf e := (World.cells?_some (hT i h1).1).2.1
                    have hg : (T i).1[j]? = some ((T i).1.getD j undef) := by simp [List.getD, hl1, hj']
                    exact (hT i h1).2.2.1.2 j c' _ hj hg)
                  (fun k hk => by cases hk)
                rw [hol] at hrep
                exact hrep
          · cases h
      | struct fs =>
        simp only at h
        cases hc : clF P (clOf P n) 0 fs.toList with
        | none => rw [hc] at h; cases h
        | some c =>
          rw [hc] at h
          simp only at h
          split at h
          · rename_i hsz
            simp only [Option.some.injEq] at h; subst h
            obtain ⟨xs, m, rfl, _, hl, hfl, hel⟩ := DataW.trod_struct ht hx
            have := open_fields (fuel := m) (cs := cs) B (clOf P n) (fun t cs x cls h1 h2 => open_cells B n m t cs x cls h1 h2) fs.toList 0 c hc (fun f hf => by
              obtain ⟨i, hi⟩ := List.getElem?_of_mem hf
              have hi' : fs[i]? = some f := by simpa using hi
              have := hel i f hi'
              have hlt : i < xs.length := by have := getElem?_lt hi; simp at this; omega
              exact ⟨_, by rw [this, List.getElem?_eq_getElem hlt]⟩)
            rw [List.drop_zero, hsz, ← hl, List.take_length] at this
            exact this
          · cases h
      | _ => simp only at h; cases h
/-- an argument that is no struct -/
theorem open_arg {t : TypeId} {v : Value} {d : DataW H} {ps : List MemPlace} {r : Reach} {b0 : Nat} (B n : Nat) {cl : Cl} (hc : clOf P n t = some [cl]) (hs : ∀ fs, P.underlying t ≠ some (.struct fs)) (hval : Value.okWide P w r b0 t v)
    (h : DataW.Trod enc P w base spare held t v d ps) : ∃ x, FitsL [cl] [x] ∧ Rep B w (allF w) [] [] [] (old x) v := by
  obtain ⟨fuel, h⟩ := h
  obtain ⟨trs, h1, h2, h3⟩ := open_cells B n fuel t _ _ _ hc h
  have hv : v.cells.toList = [v] := by
    cases v with
    | agg cs =>
      exfalso
      unfold Value.okWide at hval
      cases n with
      | zero => cases hc
      | succ n =>
        unfold clOf at hc
        cases hu : P.underlying t with
        | none => rw [hu] at hc; cases hc
        | some u =>
          rw [hu] at hc hval hs
          cases u <;> first | cases hc; done | exact absurd rfl (hs _) | (simp only [Cell.okWide, hu, Cell.ok] at hval)
    | _ => rfl
  rw [hv] at h2
  cases trs with
  | nil => exact absurd h1.length (by simp)
  | cons x xs =>
    cases xs with
    | cons _ _ => exact absurd h1.length (by simp)
    | nil => exact ⟨x, h1, (Both.cons.1 h2).1⟩
end
end Abs
end Go.Proofs.Ytkbblglbbfdnpaa
namespace Go.Proofs.Ytkbblglbbfdnpaa
namespace Abs
variable {mo : Bool}
open Go.ChangeShapes Go.WideShapes Go.ChangeAt Go.RowKit
section
variable {H : Type} {enc : TypeId × Value → H} {P : Program}
theorem trodAll_stays {base : Nat} (hl : laidOutB P = true) {W W' : World} {sp' : Nat → Bool} : ∀ {ts : List TypeId} {vs : List Value} {ds : List (DataW H)} {ps : List MemPlace},
    (∀ t ∈ ts, P.readableRec t = true ∧ t < P.types.size) → DataW.TrodAll enc P W base (fun _ => true) true ts vs ds ps → (∀ p ∈ ps, W.sameAt W' p) → (∀ p ∈ ps, sp' p.block = true) →
    DataW.TrodAll enc P W' base sp' true ts vs ds ps
  | [], [], [], _, _, h, _, _ => h
  | t :: ts, v :: vs, d :: ds, _, ht, h, hs, hp => by
    obtain ⟨p, q, h1, h2, rfl⟩ := h
    exact ⟨p, q, WideElems.Trod_stays hl (ht t (by simp)).1 (ht t (by simp)).2 h1 (fun x hx => hs x (by simp [hx])) (fun x hx => hp x (by simp [hx])),
      trodAll_stays hl (fun t h => ht t (by simp [h])) h2 (fun x hx => hs x (by simp [hx])) (fun x hx => hp x (by simp [hx])), rfl⟩
/-- a law that says yes, and leaves what was there alone -/
theorem law_post {f : Func} {s : ChangeSpec} {apart fresh handsOn again : Bool} {W W' : World} {args : Array Value} {ds gs : List (DataW H)} {before : List MemPlace} {tb : TypeId}
    (hl : laidOutB P = true) (hv : s.vars = []) (hp : ∀ t ∈ f.params.toList, P.readableRec t = true ∧ t < P.types.size) (hr : f.resultTypes = #[tb]) (htb : P.underlying tb = some .bool)
    (hW : DataW.Whole enc P f.params.toList s.vars apart W args.toList ds gs before) (hb : Bel mo W.heap.size W W')
    (hfn : s.fn H (ds ++ gs) = { results := [.lit (.bool true)], args := ds }) : s.post enc P f apart fresh handsOn again W args (.bool true) W' := by
  have hlt : ∀ p ∈ before, p.block < W.heap.size := fun p hp => hW.lt p hp
  have hW' := hW
  obtain ⟨p, q, hA, hV, hpq, hz, hn⟩ := hW
  rw [hv] at hV
  obtain ⟨hg, hq⟩ : gs = [] ∧ q = [] := trodVars_none hV
  subst hg; subst hq
  simp only [List.append_nil] at hpq hfn hz hn
  subst hpq
  have hargs : ∀ sp : Nat → Bool, (∀ x ∈ before, sp x.block = true) → DataW.TrodAll enc P W' 0 sp true f.params.toList args.toList ds before :=
    fun sp hsp => trodAll_stays hl hp hA (fun x hx => hb.same (hlt x hx)) hsp
  have hres : ∀ (b : Nat) (sp : Nat → Bool) (hd : Bool), DataW.TrodAll enc P W' b sp hd f.resultTypes.toList ((Value.bool true).resultList f.resultTypes.size) [.lit (.bool true)] [] := fun b sp hd => by
    rw [hr]
    exact trodAll_mk1 (shut_bool htb true)
  have hvars : ∀ sp : Nat → Bool, DataW.TrodVars enc P W' sp s.vars [] [] := fun sp => by rw [hv]; rfl
  have hfn' : s.fn H (ds ++ []) = { results := [.lit (.bool true)], args := ds } := by rw [List.append_nil]; exact hfn
  refine ⟨ds, [], before, [], before, [], hW', by rw [hfn']; exact hres _ _ _, by rw [hfn']; exact hargs _ (fun x hx => by simpa using hlt x hx), by rw [hfn']; exact hvars _, hb.frame _, fun _ => ?_⟩
  refine ⟨ok_one hr rfl (okWide_bool_mk htb true), _, _, ([] ++ before) ++ [], ⟨[] ++ before, [], trodAll_append (hargs _ (fun _ _ => rfl)) (hres _ _ _), hvars _, rfl, ?_, ?_⟩, ?_⟩
  · intro b off hp'
    have hm : MemPlace.cell b off ∈ before := by simpa using hp'
    rw [hb.frozen (hlt _ hm)]
    exact hz b off hm
  · intro ha
    simpa using hn ha
  · intro x hx _
    simpa using hx
end
/-- the call's own result -/
theorem law_ret {P : Program} {fid : Nat} {avs : List AV} {args : Array Value} {W : World} (h : Ret mo P fid avs (.val (.bool true)) []) (hc : CondB W []) (hB : Both (Rep W.heap.size W (allF W) [] [] []) avs args.toList) :
    Calls P fid args W fun e w' => e = .returned (.bool true) ∧ Bel mo W.heap.size W w' := by
  rw [Ret_eq] at h
  obtain ⟨_, hR⟩ := h
  refine (hR W (allF W) args hc (fun b hb => allF_out W b hb) hB).mono ?_
  rintro e W' ⟨v, F', tok, box, rfl, hb, _, _, _, _, _, hrep⟩
  cases hrep
  exact ⟨rfl, hb⟩
theorem both_nil {R : AV → Value → Prop} : Both R [] [] := ⟨rfl, by simp⟩
end Abs
theorem Abs.own : ownKnob Try.prog.godebug = none := by kernel_rfl
end Go.Proofs.Ytkbblglbbfdnpaa
