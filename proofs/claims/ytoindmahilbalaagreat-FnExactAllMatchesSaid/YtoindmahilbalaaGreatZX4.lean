/-
  What stands below some laws' proofs, part 4: contracts of functions, by an evaluator.
-/
import Derived.Test.YtoindmahilbalaaGreatZX3
namespace Go.Proofs.YtoindmahilbalaaGreat
open Abs
def setR (v x : Str) : List VPair → List VPair
 | [] => [(v, x)]
 | p :: b => if blt v p.1 then (v, x) :: p :: b else p :: setR v x b
def extF (b : List VPair) (v x : Str) : Option (List VPair) :=
 if bindF b && varF v && atomF x then (if (valF b v).2 && decide ((valF b v).1 = x) then some b else if (valF b v).2 || decide (b.length = 6) then none else some (setR v x b)) else none
def matS (e : List VPair) : List (Str × Str) → Option (List VPair)
 | [] => some e
 | q :: l => if atomF q.1 then (if q.1 = q.2 then matS e l else none) else (match extF e q.1 q.2 with | some e' => matS e' l | none => none)
abbrev AscP (b : List VPair) : Prop := b.Pairwise fun p q => p.1 < q.1
theorem bindF_iff (b : List VPair) : bindF b = true ↔ b.length ≤ 6 ∧ (∀ p ∈ b, varF p.1 = true ∧ atomF p.2 = true) ∧ AscP b := by
 constructor
 ·intro h
  refine ⟨bindF_len h, fun p hp => ?_, ?_⟩
  ·obtain ⟨j, hj⟩ := List.getElem?_of_mem hp
   have hb := bindF_lt h (getElem?_lt hj)
   have e : b.getD j default = p := by simp [List.getD, hj]
   unfold badB at hb
   rw [e] at hb
   simp only [Bool.or_eq_false_iff, Bool.not_eq_false'] at hb
   exact hb.1
  ·rw [AscP, List.pairwise_iff_getElem]
   intro i j hi hj hij
   have := bindF_sorted h (j - i - 1) i (by omega)
   rw [show i + (j - i - 1) + 1 = j by omega] at this
   have h2 : blt (b.getD i default).1 (b.getD j default).1 = true := this
   rw [blt_eq, decide_eq_true_eq] at h2
   simpa [List.getD, hi, hj] using h2
 ·rintro ⟨h1, h2, h3⟩
  rw [bindF_yes (fun j hj => ?_)]
  ·simp; omega
  ·have hm : b.getD j default ∈ b := by simp [List.getD, hj]
   obtain ⟨v1, v2⟩ := h2 _ hm
   unfold badB
   rw [v1, v2]
   simp only [Bool.not_true, Bool.false_or, Bool.and_eq_false_iff, decide_eq_false_iff_not, Bool.not_eq_false']
   rcases Nat.eq_zero_or_pos j with rfl | hp
   ·left; omega
   ·right
    have h4 := List.pairwise_iff_getElem.1 h3 (j - 1) j (by omega) hj (by omega)
    have : blt (b.getD (j - 1) default).1 (b.getD j default).1 = true := by
     rw [blt_eq, decide_eq_true_eq]
     have hj1 : j - 1 < b.length := by omega
     simpa [List.getD, hj, hj1] using h4
    exact this
theorem atom_novar {t : Str} (h : atomF t = true) : varF t = false := by
 cases t with
 | nil => rfl
 | cons c t =>
  have hc : alnum c = true := by
   unfold atomF at h
   rw [List.all_cons, Bool.and_eq_true, Bool.and_eq_true] at h
   exact h.1.1
  cases hv : varF (c :: t) with
  | false => rfl
  | true =>
   unfold varF at hv
   simp only [Bool.and_eq_true, beq_iff_eq, List.getD_cons_zero] at hv
   have h63 : c.toNat = 63 := by have := hv.1.2; omega
   have : c = 63 := UInt8.toNat_inj.1 h63
   rw [this] at hc
   exact absurd hc (by decide)
theorem lookV_mem : ∀ {b : List VPair} {k v : Str}, lookV b k = some v → (k, v) ∈ b
 | [], _, _, h => by cases h
 | p :: b, k, v, h => by
  rw [lookV] at h
  split at h
  ·rename_i e; cases h; subst e; simp
  ·exact List.mem_cons_of_mem _ (lookV_mem h)
theorem lookV_none : ∀ {b : List VPair} {k : Str}, lookV b k = none → ∀ p ∈ b, p.1 ≠ k
 | [], _, _, p, hp => by simp at hp
 | q :: b, k, h, p, hp => by
  rw [lookV] at h
  split at h
  ·cases h
  ·rename_i e
   rcases List.mem_cons.1 hp with rfl | hp
   ·exact e
   ·exact lookV_none h p hp
structure Like (e m : List VPair) : Prop where
 asc : AscP e
 perm : (e.map (·.1)).Perm (m.map (·.1))
 val : ∀ p ∈ e, mget m p.1 = some p.2
theorem mget_key : ∀ {m : List VPair} {k v : Str}, mget m k = some v → k ∈ m.map (·.1)
 | [], _, _, h => by cases h
 | p :: m, k, v, h => by
  rw [mget] at h
  split at h
  ·rename_i e; subst e; simp
  ·exact List.mem_cons_of_mem _ (mget_key h)
theorem Like.len {e m : List VPair} (h : Like e m) : e.length = m.length := by simpa using h.perm.length_eq
theorem Like.look {e m : List VPair} (h : Like e m) (k : Str) : lookV e k = mget m k := by
 cases h1 : lookV e k with
 | some v => exact (h.val _ (lookV_mem h1)).symm
 | none =>
  cases h2 : mget m k with
  | none => rfl
  | some v =>
   obtain ⟨p, hp, hk⟩ := List.mem_map.1 (h.perm.symm.mem_iff.1 (mget_key h2))
   exact absurd hk (lookV_none h1 p hp)
theorem srt_fix {l : List Str} (h : l.Pairwise fun a b => a < b) : srt l = l := by
 refine List.mergeSort_of_pairwise (h.imp fun hab => ?_)
 simp only [decide_eq_true_eq]
 exact List.le_of_lt hab
theorem Like.eq {e m : List VPair} (h : Like e m) : e = pairsM m := by
 have h1 : srt (m.map (·.1)) = e.map (·.1) := by
  have h2 : srt (m.map (·.1)) = srt (e.map (·.1)) := (mergeSort_of_perm h.perm.symm : _)
  rw [h2, srt_fix (List.pairwise_map.2 h.asc)]
 rw [pairsM, h1, List.map_map]
 have h3 : ∀ p ∈ e, ((fun k => (k, (mget m k).getD [])) ∘ fun p : VPair => p.1) p = id p := fun p hp => by
  show (p.1, (mget m p.1).getD []) = p
  rw [h.val p hp]; rfl
 rw [List.map_congr_left h3, List.map_id]
theorem mem_setR {v x : Str} : ∀ {b : List VPair} {p : VPair}, p ∈ setR v x b ↔ p = (v, x) ∨ p ∈ b
 | [], p => by simp [setR]
 | q :: b, p => by
  rw [setR]
  split
  ·simp
  ·simp only [List.mem_cons, mem_setR (b := b)]
   constructor
   ·rintro (h | h | h) <;> simp [h]
   ·rintro (h | h | h) <;> simp [h]
theorem setR_perm {v x : Str} : ∀ b : List VPair, (setR v x b).Perm (b ++ [(v, x)])
 | [] => List.Perm.refl _
 | q :: b => by
  rw [setR]
  split
  ·exact (List.perm_append_singleton (v, x) (q :: b)).symm
  ·exact (setR_perm b).cons q
theorem setR_asc {v x : Str} : ∀ {b : List VPair}, AscP b → (∀ p ∈ b, p.1 ≠ v) → AscP (setR v x b)
 | [], _, _ => by simp [setR]
 | q :: b, h, hn => by
  obtain ⟨h1, h2⟩ := List.pairwise_cons.1 h
  rw [setR]
  split
  ·rename_i hlt
   rw [blt_eq, decide_eq_true_eq] at hlt
   refine List.pairwise_cons.2 ⟨fun p hp => ?_, h⟩
   rcases List.mem_cons.1 hp with rfl | hp
   ·exact hlt
   ·exact List.lt_trans hlt (h1 p hp)
  ·rename_i hlt
   have hlt : blt v q.1 = false := by simpa using hlt
   have h3 : q.1 < v := by
    cases h4 : blt q.1 v with
    | true => rwa [blt_eq, decide_eq_true_eq] at h4
    | false => exact absurd (blt_sto.tri _ _ h4 hlt) (hn q (by simp))
   refine List.pairwise_cons.2 ⟨fun p hp => ?_, setR_asc h2 (fun p hp => hn p (by simp [hp]))⟩
   rcases mem_setR.1 hp with rfl | hp
   ·exact h3
   ·exact h1 p hp
theorem mget_snoc {m : List VPair} {v x : Str} : ∀ {k : Str}, mget (m ++ [(v, x)]) k = (match mget m k with | some u => some u | none => if v = k then some x else none) := by
 induction m with
 | nil => intro k; rfl
 | cons p m ih =>
  intro k
  rw [List.cons_append, mget, mget]
  split
  ·rfl
  ·exact ih
theorem Like.set {e m : List VPair} (h : Like e m) {v x : Str} (hn : mget m v = none) : Like (setR v x e) (mput m v x) := by
 have hm : mput m v x = m ++ [(v, x)] := by
  refine (mget_no fun p hp he => ?_).2 x
  have hl : lookV e v = none := by rw [h.look]; exact hn
  obtain ⟨q, hq, hk⟩ := List.mem_map.1 (h.perm.symm.mem_iff.1 (List.mem_map.2 ⟨p, hp, rfl⟩))
  exact lookV_none hl q hq (hk.trans he)
 have hl : lookV e v = none := by rw [h.look]; exact hn
 rw [hm]
 refine ⟨setR_asc h.asc (lookV_none hl), ?_, fun p hp => ?_⟩
 ·refine ((setR_perm e).map _).trans ?_
  rw [List.map_append, List.map_append]
  exact h.perm.append (List.Perm.refl _)
 ·rw [mget_snoc]
  rcases mem_setR.1 hp with rfl | hp
  ·rw [hn]; simp
  ·rw [h.val p hp]
theorem turnS_len : ∀ {l : List (Str × Str)} {m m' : List VPair}, turnS m l = some m' → m.length ≤ m'.length
 | [], m, m', h => by cases h; exact Nat.le_refl _
 | q :: l, m, m', h => by
  rw [turnS] at h
  split at h
  ·rename_i m1 h1
   refine Nat.le_trans ?_ (turnS_len h)
   unfold turnStep at h1
   split at h1
   ·split at h1
    ·split at h1
     ·cases h1; exact Nat.le_refl _
     ·cases h1
    ·cases h1
     have : ∀ (m : List VPair) k v, m.length ≤ (mput m k v).length := fun m k v => by
      induction m with
      | nil => simp [mput]
      | cons p m ih => rw [mput]; split <;> simp; exact ih
     exact this _ _ _
   ·split at h1
    ·cases h1; exact Nat.le_refl _
    ·cases h1
  ·cases h
def fin6 (o : Option (List VPair)) : Option (List VPair) := match o with | some m => if m.length ≤ 6 then some (pairsM m) else none | none => none
theorem matS_eq : ∀ (l : List (Str × Str)) {e m : List VPair}, Like e m → bindF e = true → (∀ q ∈ l, termF q.1 = true ∧ atomF q.2 = true) → matS e l = fin6 (turnS m l)
 | [], e, m, h, hb, _ => by
  have := h.len
  have := bindF_len hb
  rw [matS, turnS, fin6, if_pos (by omega), ← h.eq]
 | q :: l, e, m, h, hb, hq => by
  obtain ⟨q1, q2⟩ := hq q (by simp)
  have hl := fun r hr => hq r (List.mem_cons_of_mem q hr)
  obtain ⟨t, x⟩ := q
  simp only at q1 q2
  rw [matS, turnS]
  simp only
  by_cases ha : atomF t = true
  ·have hv : varF t = false := atom_novar ha
   rw [if_pos ha]
   by_cases htx : t = x
   ·rw [if_pos htx, step_eq hv htx]; exact matS_eq l h hb hl
   ·rw [if_neg htx, step_no hv htx]; rfl
  ·have hv : varF t = true := by simpa [termF, ha] using q1
   have ha : atomF t = false := by simpa using ha
   rw [if_neg (by simp [ha])]
   have hval : valF e t = match mget m t with | some v => (v, true) | none => ([], false) := by
    unfold valF; rw [if_neg (by simp [ha]), if_pos hv, h.look] <;> (cases mget m t <;> rfl)
   unfold extF
   rw [hb, hv, q2, hval]
   cases hg : mget m t with
   | some v =>
    by_cases hvx : v = x
    ·rw [step_old hv hg hvx]; simp [hvx]; exact matS_eq l h hb hl
    ·rw [step_bad hv hg hvx]; simp [hvx, fin6]
   | none =>
    rw [step_new hv hg]
    by_cases h6 : e.length = 6
    ·simp only [Bool.true_and, Bool.false_and, Bool.false_or, h6, decide_true, if_true]
     simp only [Bool.false_eq_true, if_false]
     cases ht : turnS (mput m t x) l with
     | none => rfl
     | some m' =>
      have h1 := turnS_len ht
      have h2 := h.len
      have h3 := (h.set (x := x) hg).len
      have h4 := (setR_perm (v := t) (x := x) e).length_eq
      rw [List.length_append, List.length_singleton] at h4
      rw [fin6, if_neg (by omega)]
    ·simp only [Bool.true_and, Bool.false_and, Bool.false_or, h6, decide_false, Bool.false_eq_true, if_false, if_true]
     obtain ⟨b1, b2, b3⟩ := (bindF_iff e).1 hb
     have hn : lookV e t = none := by rw [h.look]; exact hg
     refine matS_eq l (h.set hg) ((bindF_iff _).2 ⟨?_, fun p hp => ?_, (h.set (x := x) hg).asc⟩) hl
     ·have h4 := (setR_perm (v := t) (x := x) e).length_eq
      rw [List.length_append, List.length_singleton] at h4
      omega
     ·rcases mem_setR.1 hp with rfl | hp
      ·exact ⟨hv, q2⟩
      ·exact b2 p hp
theorem like_self {b : List VPair} (h : bindF b = true) : Like b b := by
 obtain ⟨_, _, h3⟩ := (bindF_iff b).1 h
 refine ⟨h3, List.Perm.refl _, fun p hp => ?_⟩
 obtain ⟨j, hj⟩ := List.getElem?_of_mem hp
 refine (mget_at ?_ (show b[j]? = some (p.1, p.2) from hj)).1
 refine List.pairwise_map.2 (h3.imp fun hlt he => ?_)
 rw [he] at hlt
 exact List.lt_irrefl _ hlt
theorem var_len {x : Str} (h : varF x = true) : x.length ≤ 9 := by
 unfold varF at h
 simp only [Bool.and_eq_true] at h
 have h2 := h.2
 unfold atomF at h2
 simp only [Bool.and_eq_true, decide_eq_true_eq, List.length_drop] at h2
 have := h2.2.2
 omega
theorem mput_key {k v : Str} : ∀ {m : List VPair} {p : VPair}, p ∈ mput m k v → p.1 = k ∨ p ∈ m
 | [], p, h => by rw [mput] at h; left; rw [List.mem_singleton.1 h]
 | q :: m, p, h => by
  rw [mput] at h
  split at h
  ·rcases List.mem_cons.1 h with rfl | h
   ·exact .inl rfl
   ·exact .inr (List.mem_cons_of_mem _ h)
  ·rcases List.mem_cons.1 h with rfl | h
   ·exact .inr (by simp)
   ·rcases mput_key h with h | h
    ·exact .inl h
    ·exact .inr (List.mem_cons_of_mem _ h)
theorem turnS_var : ∀ {l : List (Str × Str)} {m m' : List VPair}, turnS m l = some m' → (∀ p ∈ m, varF p.1 = true) → ∀ p ∈ m', varF p.1 = true
 | [], m, m', h, hm => by cases h; exact hm
 | q :: l, m, m', h, hm => by
  rw [turnS] at h
  split at h
  ·rename_i m1 h1
   refine turnS_var h ?_
   unfold turnStep at h1
   split at h1
   ·rename_i hv
    split at h1
    ·split at h1
     ·cases h1; exact hm
     ·cases h1
    ·cases h1
     intro p hp
     rcases mput_key hp with he | hp
     ·rw [he]; exact hv
     ·exact hm p hp
   ·split at h1
    ·cases h1; exact hm
    ·cases h1
  ·cases h
theorem turnF_var {m m' : List VPair} {a x : List Str} (h : turnF m a x = some m') (hm : bindF m = true) : ∀ p ∈ m', p.1.length ≤ 1048576 := fun p hp => by
 unfold turnF at h
 split at h
 ·have := var_len (turnS_var h (fun p hp => (((bindF_iff m).1 hm).2.1 p hp).1) p hp)
  omega
 ·cases h
theorem extF_bind {b e : List VPair} {v x : Str} (h : extF b v x = some e) : bindF e = true := by
 unfold extF at h
 split at h
 ·rename_i hc
  simp only [Bool.and_eq_true] at hc
  obtain ⟨⟨hb, hv⟩, hx⟩ := hc
  split at h
  ·cases h; exact hb
  ·rename_i h1
   split at h
   ·cases h
   ·rename_i h2
    cases h
    simp only [Bool.or_eq_true, decide_eq_true_eq, not_or] at h2
    obtain ⟨b1, b2, b3⟩ := (bindF_iff b).1 hb
    have ha : atomF v = false := by
     cases ha : atomF v with
     | false => rfl
     | true => rw [atom_novar ha] at hv; cases hv
    have hn : lookV b v = none := by
     have h3 := h2.1
     unfold valF at h3
     rw [if_neg (by simp [ha]), if_pos hv] at h3
     cases hl : lookV b v with
     | none => rfl
     | some u => rw [hl] at h3; simp at h3
    refine (bindF_iff _).2 ⟨?_, fun p hp => ?_, setR_asc b3 (lookV_none hn)⟩
    ·have h4 := (setR_perm (v := v) (x := x) b).length_eq
     rw [List.length_append, List.length_singleton] at h4
     omega
    ·rcases mem_setR.1 hp with rfl | hp
     ·exact ⟨hv, hx⟩
     ·exact b2 p hp
 ·cases h
theorem pairs_size : ∀ {b : List VPair}, (∀ p ∈ b, varF p.1 = true ∧ atomF p.2 = true) → listSize tPair b ≤ 17 * b.length
 | [], _ => Nat.zero_le _
 | p :: b, h => by
  have h1 := pairs_size (b := b) (fun q hq => h q (by simp [hq]))
  obtain ⟨hv, ha⟩ := h p (by simp)
  have h2 := var_len hv
  unfold atomF at ha
  simp only [Bool.and_eq_true, decide_eq_true_eq] at ha
  have h3 := ha.2.2
  show (p.1.length + p.2.length) + listSize tPair b ≤ 17 * (b.length + 1)
  omega
theorem bind_size {b : List VPair} (h : bindF b = true) : tPairs.size b ≤ 1048576 := by
 obtain ⟨h1, h2, _⟩ := (bindF_iff b).1 h
 have := pairs_size h2
 rw [tPairs_sz]; omega
open Abs
def matF (p : VPattern) (f : Fct) (b : List VPair) : Option (List VPair) :=
 if decide (p.1 = f.1) && isPatF p && isFactF f && bindF b then fin6 (turnF b p.2 f.2) else none
theorem own_tup {α : Type} (T : Ty α) (hf : ∀ a, T.fr a = []) (e : ∀ a, T.tk a 0 = oldL (T.q a)) {F : Fr} {t k : Nat} {l : List α} (v : Value) (hv : plainV v = true) (hk : F[k]? = some (t, T.sz, l.length)) :
 ∃ ts, OwnA F [.p [.l t T.sz (l.map T.q), .v v]] [.tup [.list (some k) (rows T l), .val v]] ts ∧ ts.Nodup := by
 have := OwnA.p _ _ (plain_ownA T hf e F t k l hk (.v v hv .nil)) .nil
 rw [List.append_nil] at this
 exact ⟨[k], this, by simp⟩
theorem pMatchFact.own (p : VPattern) (f : Fct) (b : List VPair) (h1 : tPattern.size p ≤ 1048576) (h2 : tFct.size f ≤ 1048576) (h3 : tPairs.size b ≤ 1048576) :
 Abs.Own false Tryz.prog 151 [.agg (oldL (tPattern.q p)), .agg (oldL (tFct.q f)), .list none (pairs b)] (.p [.l 141 2 (((matF p f b).getD []).map tPair.q), .v (.bool (matF p f b).isSome)]) := by
 refine Abs.IrAt.ownP pMatchFact.ir rfl ?_
 have hx := plainC_old (tPattern.q p)
 have hy := plainC_old (tFct.q f)
 have s1 : tFct.size p ≤ 1048576 := h1
 have s2 := h2
 have s3 := h3
 rw [tFct_size, tStrs_size] at s1 s2
 rw [tPairs_sz] at s3
 generalize ho : matF p f b = o
 repeat' first
  | (conv => whnf
     first | refine Need.mk (fun h => h) ?_ | refine Need.mk rfl ?_ | refine nb_ ?_ | refine Fork.mk (fun _ => ?_) (fun _ => ?_) | refine FinVal.keep ?_ | refine AGCall.mkA _ _ (fun hg => Ret.weak (pIsPattern.ret _ ?_)) rfl ?_ | refine AGCall.mkA _ _ (fun hg => Ret.weak (pIsFact.ret _ ?_)) rfl ?_ | refine AGCall.mkA _ _ (fun hg => Ret.weak (pIsBinding.ret _ ?_)) rfl ?_)
 ·exact h1
 ·exact h2
 ·exact h3
 ·rename_i hc
  have : o = none := by
   rw [← ho, matF, if_neg (fun hn => ?_)]
   revert hc hn
   cases hp : decide (p.1 = f.1) <;> cases isPatF p <;> cases isFactF f <;> cases bindF b <;> simp_all
  subst this
  exact own_tup tPair (fun _ => rfl) (fun _ => rfl) (.bool false) rfl rfl
 rename_i hc
 have hc : (decide (p.1 = f.1) && isPatF p && isFactF f && bindF b) = true := by
  revert hc
  cases isPatF p <;> cases isFactF f <;> cases bindF b <;> simp_all
 rw [matF, if_pos hc] at ho
 have hb : bindF b = true := by simp only [Bool.and_eq_true] at hc; exact hc.2
 have hbl := bindF_len hb
 have hmo := pmapOfPairs.lent _ _ hx hy b h3 hb
 have htu := pturnInto.lent _ _ hx hy b p.2 f.2 (by omega) (by omega) (by omega)
 repeat' first
  | (conv => whnf
     first | refine ACall.lentE _ _ _ _ _ (Lent.weak (hmo)) (by repeat' first | exact Lends.nil | refine Lends.map _ ?_ | refine Lends.lend _ _ (by first | exact hx.1 | exact hy.1 | exact noTk_old _ | (intro c hc; rw [List.mem_singleton.1 hc]; rfl) | (intro c hc; cases hc; done)) ?_) (by repeat' first | exact SeesL.nil | refine SeesL.cons ?_ ?_ | exact Or.inl ⟨rfl, rfl⟩ | exact Or.inr (Sees0.str _) | exact Or.inr (Sees0.val _) | exact Or.inr (Sees0.olds _ _) | exact Or.inr (Sees0.old _) | exact Or.inr (Sees0.oldagg _)) ?_ | refine ACall.lent rfl _ _ _ (Lent.weak (htu)) (by repeat' first | exact Lends.nil | refine Lends.map _ ?_ | refine Lends.lend _ _ (by first | exact hx.1 | exact hy.1 | exact noTk_old _ | (intro c hc; rw [List.mem_singleton.1 hc]; rfl) | (intro c hc; cases hc; done)) ?_) (by repeat' first | exact SeesL.nil | refine SeesL.cons ?_ ?_ | exact Or.inl ⟨rfl, rfl⟩ | exact Or.inr (Sees0.str _) | exact Or.inr (Sees0.val _) | exact Or.inr (Sees0.olds _ _) | exact Or.inr (Sees0.old _) | exact Or.inr (Sees0.oldagg _)) ?_)
 rintro _ _ _ ⟨m', rfl, rfl, rfl, hm'⟩
 cases ht : turnF b p.2 f.2 with
 | none =>
  rw [ht] at ho
  have ho : none = o := ho
  subst ho
  repeat' first
   | (conv => whnf
      first | refine Need.mk (fun h => h) ?_ | refine Need.mk rfl ?_ | refine Fork.decYes (by omega) ?_ | refine FinVal.keep ?_)
  all_goals exact own_tup tPair (fun _ => rfl) (fun _ => rfl) (.bool false) rfl rfl
 | some m0 =>
  have e := hm' m0 ht
  subst e
  rw [ht] at ho
  have hkl := turnF_var ht hb
  repeat' first
   | (conv => whnf
      first | refine Need.mk (fun h => h) ?_ | refine Need.mk rfl ?_ | refine Fork.dec (fun _ => ?_) (fun _ => ?_) | refine FinVal.keep ?_)
  ·rename_i hc2
   have : o = none := by
    rw [← ho, fin6, if_neg (fun hl => ?_)]
    revert hc2; simp; omega
   subst this
   exact own_tup tPair (fun _ => rfl) (fun _ => rfl) (.bool false) rfl rfl
  rename_i hc2
  have hl6 : m'.length ≤ 6 := by revert hc2; simp; omega
  rw [fin6, if_pos hl6] at ho
  subst ho
  have hpp := ppairsOfMap.lent _ _ hx hy m' (by omega) hkl
  have hpl : (pairsM m').length = m'.length := by rw [pairsM, List.length_map, srt_len, List.length_map]
  repeat' first
   | (conv => whnf
      first | refine FinVal.keep ?_ | refine ACall.lentE _ _ _ _ _ (hpp) (by repeat' first | exact Lends.nil | refine Lends.map _ ?_ | refine Lends.lend _ _ (by first | exact hx.1 | exact hy.1 | exact noTk_old _ | (intro c hc; rw [List.mem_singleton.1 hc]; rfl) | (intro c hc; cases hc; done)) ?_) (by repeat' first | exact SeesL.nil | refine SeesL.cons ?_ ?_ | exact Or.inl ⟨rfl, rfl⟩ | exact Or.inr (Sees0.str _) | exact Or.inr (Sees0.val _) | exact Or.inr (Sees0.olds _ _) | exact Or.inr (Sees0.old _) | exact Or.inr (Sees0.oldagg _)) ?_)
  exact own_tup tPair (fun _ => rfl) (fun _ => rfl) (l := pairsM m') (k := 0) (.bool true) rfl (by rw [hpl]; rfl)
end Go.Proofs.YtoindmahilbalaaGreat
namespace Go.Proofs.YtoindmahilbalaaGreat
namespace Abs
theorem ACall.mkTB {α : Type} (T : Ty α) {C : Con} {lend : Bool} {f : Nat} {vs : List AV} {b : List ABox} {fr : Fr} {k : AV → List ABox → Fr → Prop} (ys : List AV) (l : List α) (v : Value) (F : Fr) (h : C.ret f ys (.tup [.list (some 0) (rows T l), .val v]) F) (hv : SeesL Sees0 vs ys)
 (hk : k (.tup [.list (some fr.length) (rows T l), .val v]) b (fr ++ F)) : ACall C lend f vs b fr k :=
 .mk ys _ _ h hv (by
  show k (.tup [.list (some (0 + fr.length)) (mapTLL _ (rows T l)), .val v]) _ _
  rw [rows, mapTLL_old, Nat.zero_add]; exact hk)
end Abs
open Abs
theorem sCopyB.ret (b : List VPair) (h : tPairs.size b ≤ 1048576) : sCopyB.Ret [.list none (pairs b)] (.list (some 0) (pairs b)) [(141, 2, b.length)] := by
 refine sCopyB.ir.of rfl ?_
 rw [tPairs_sz] at h
 repeat' first
  | (conv => whnf
     first | refine Need.mk rfl ?_ | refine Need.mk ?_ ?_ | refine Final.mk ?_ ?_)
  | refine AV.list_congr ?_ | refine fr1 ?_
 all_goals try simp only [length_rows, length_strs, length_oldLL, List.length_map, Int.toNat_natCast] at *
 ·exact rows_cut tPair b
 ·simp only [List.length_nil]; omega
 ·rfl
 ·simp
theorem gtr_blt (a v : Str) : (!(Op.bytesLess a v || a == v)) = blt v a := by
 show (!(blt a v || a == v)) = blt v a
 cases h : blt v a with
 | true =>
  have h1 := STO.asymm blt_sto h
  have h2 : (a == v) = false := by
   rw [beq_eq_false_iff_ne]; rintro rfl; rw [blt_sto.irrefl] at h; cases h
  rw [h1, h2]; rfl
 | false =>
  cases h1 : blt a v with
  | true => rfl
  | false =>
   have := blt_sto.tri a v h1 h
   subst this; simp
theorem sSet.ret (b : List VPair) (v x : Str) (h : tPairs.size b ≤ 1048576) : sSet.Ret [.list none (pairs b), .str v, .str x] (.list (some 0) (pairs (setR v x b))) [(141, 2, (setR v x b).length)] := by
 refine sSet.ir.of rfl ?_
 rw [tPairs_sz] at h
 have hsl := (setR_perm (v := v) (x := x) b).length_eq
 rw [List.length_append, List.length_singleton] at hsl
 repeat' first
  | (conv => whnf
     first | refine Need.mk rfl ?_)
 refine ALoop.mk (Nat × List VPair × Bool) (fun i => ⟨[(0, .list none (pairs b)), (1, .str v), (2, .str x), (7, .list (some 0) (pairs i.2.1)), (8, .val (.bool i.2.2)), (9, .val (.int .i64 i.1))], [], [(141, 2, i.2.1.length)]⟩)
  (fun i => i.1 ≤ b.length ∧ i.2.1 ++ (if i.2.2 then b.drop i.1 else setR v x (b.drop i.1)) = setR v x b) (fun i => b.length - i.1) ⟨(0, [], false), ⟨Nat.zero_le _, rfl⟩, ?_⟩ (fun i hi => ?_)
 ·repeat' first
   | exact trivial | refine wl_ ?_ ?_ ?_ ?_ | refine And.intro ?_ ?_ | with_reducible rfl | exact ble_ | refine fr1 ?_ | refine AV.int_congr ?_ | refine AV.bool_congr ?_ | refine AV.str_congr ?_ | refine AV.list_congr ?_ | (apply rfl)
 obtain ⟨i, o, d⟩ := i
 obtain ⟨hi, ho⟩ := hi
 simp only at hi ho
 have hol : o.length ≤ b.length + 1 := by
  have := congrArg List.length ho
  rw [List.length_append, hsl] at this; omega
 have hdr : i < b.length → b.drop i = b.getD i default :: b.drop (i + 1) := fun hlt => by
  rw [List.drop_eq_getElem_cons hlt]; simp [List.getD, hlt]
 repeat' first
  | (conv => whnf
     first | refine Need.mk (fun h => h) ?_ | refine Need.mk rfl ?_ | refine nb_ ?_ | refine Need.mk ?_ ?_ | refine Ix.mapF (fun _ => rfl) ?_ | refine Fork.dec (fun _ => ?_) (fun _ => ?_) | refine Fork.neg (fun _ => ?_) (fun _ => ?_) | refine Fork.mk (fun _ => ?_) (fun _ => ?_) | refine Round.mk ?_ | refine Lit.read rfl ?_ | refine Final.mk ?_ ?_)
  | refine AV.list_congr ?_ | refine fr1 ?_
 all_goals try simp only [length_rows, length_strs, length_oldLL, List.length_map, Int.toNat_natCast] at *
 ·intro c hc; rw [List.mem_singleton.1 hc]; rfl
 ·simp only [List.length_singleton]; omega
 ·simp
 ·intro c hc; rw [List.mem_singleton.1 hc]; rfl
 ·simp only [List.length_append, List.length_singleton, length_rows]; omega
 ·rename_i hc h1
  rw [gtr_blt, Bool.and_eq_true, Bool.not_eq_true'] at hc
  obtain ⟨hd, hb⟩ := hc
  subst hd
  refine ⟨(i + 1, (o ++ [(v, x)]) ++ [b.getD i default], true), ⟨by simp only; omega, ?_⟩, ?_, by simp only; omega⟩
  ·rw [hdr (by omega)] at ho
   simp only [Bool.false_eq_true, if_false, setR, hb, if_true] at ho
   simp only [if_true, List.append_assoc, List.singleton_append]
   exact ho
  ·repeat' first
    | exact trivial | refine wl_ ?_ ?_ ?_ ?_ | refine And.intro ?_ ?_ | with_reducible rfl | exact ble_ | refine fr1 ?_ | refine AV.int_congr ?_ | refine AV.bool_congr ?_ | refine AV.str_congr ?_ | refine AV.list_congr ?_ | (apply rfl)
   ·exact (congrArg (· ++ _) (rows_snoc tPair o (v, x))).trans (rows_snoc tPair (o ++ [(v, x)]) _)
   ·rw [wrap64 (by omega) (by omega)]; rfl
   ·simp [length_rows]
 ·intro c hc; rw [List.mem_singleton.1 hc]; rfl
 ·simp only [List.length_singleton]; omega
 ·rename_i hc h1
  refine ⟨(i + 1, o ++ [b.getD i default], d), ⟨by simp only; omega, ?_⟩, ?_, by simp only; omega⟩
  ·rw [hdr (by omega)] at ho
   cases d with
   | true => simpa using ho
   | false =>
    rw [gtr_blt] at hc
    have hb : blt v (b.getD i default).1 = false := by simpa using hc
    simp only [Bool.false_eq_true, if_false, setR, hb] at ho
    simp only [Bool.false_eq_true, if_false, List.append_assoc, List.singleton_append]
    exact ho
  ·repeat' first
    | exact trivial | refine wl_ ?_ ?_ ?_ ?_ | refine And.intro ?_ ?_ | with_reducible rfl | exact ble_ | refine fr1 ?_ | refine AV.int_congr ?_ | refine AV.bool_congr ?_ | refine AV.str_congr ?_ | refine AV.list_congr ?_ | (apply rfl)
   ·exact rows_snoc tPair o _
   ·rw [wrap64 (by omega) (by omega)]; rfl
   ·simp
 ·intro c hc; rw [List.mem_singleton.1 hc]; rfl
 ·simp only [List.length_singleton]; omega
 ·rename_i hd h1
  subst hd
  have e : b.drop i = [] := List.drop_eq_nil_of_le (by omega)
  rw [e] at ho
  have ho : o ++ [(v, x)] = setR v x b := ho
  rw [← ho]; exact rows_snoc tPair o (v, x)
 ·rename_i hd h1
  subst hd
  have e : b.drop i = [] := List.drop_eq_nil_of_le (by omega)
  rw [e] at ho
  have ho : o ++ [(v, x)] = setR v x b := ho
  rw [← ho, List.length_append]; rfl
 ·rename_i hd h1
  subst hd
  have e : b.drop i = [] := List.drop_eq_nil_of_le (by omega)
  rw [e] at ho
  have ho : o ++ [] = setR v x b := ho
  rw [← ho, List.append_nil]
 ·rename_i hd h1
  subst hd
  have e : b.drop i = [] := List.drop_eq_nil_of_le (by omega)
  rw [e] at ho
  have ho : o ++ [] = setR v x b := ho
  rw [← ho, List.append_nil]
theorem ext_none {b : List VPair} {v x : Str} (h : (!bindF b || !varF v || !atomF x) = true) : extF b v x = none := by
 unfold extF
 rw [if_neg]
 intro hc
 simp only [Bool.and_eq_true] at hc
 simp [hc.1.1, hc.1.2, hc.2] at h
theorem ext_ok {b : List VPair} {v x : Str} (h : (!bindF b || !varF v || !atomF x) = false) : extF b v x = if (valF b v).2 && decide ((valF b v).1 = x) then some b else if (valF b v).2 || decide (b.length = 6) then none else some (setR v x b) := by
 unfold extF
 rw [if_pos]
 simpa using h
theorem ext_same {b : List VPair} {v x : Str} (h : (!bindF b || !varF v || !atomF x) = false) (hs : ((valF b v).2 && (valF b v).1 == x) = true) : extF b v x = some b := by
 rw [ext_ok h, if_pos (by simpa using hs)]
theorem ext_full {b : List VPair} {v x : Str} (h : (!bindF b || !varF v || !atomF x) = false) (hs : ((valF b v).2 && (valF b v).1 == x) = false) (h6 : ((valF b v).2 || (b.length : Int) == 6) = true) : extF b v x = none := by
 rw [ext_ok h, if_neg (by simpa using hs), if_pos]
 simp only [Bool.or_eq_true, decide_eq_true_eq, beq_iff_eq] at h6 ⊢
 exact h6.imp id (by omega)
theorem ext_new {b : List VPair} {v x : Str} (h : (!bindF b || !varF v || !atomF x) = false) (hs : ((valF b v).2 && (valF b v).1 == x) = false) (h6 : ((valF b v).2 || (b.length : Int) == 6) = false) : extF b v x = some (setR v x b) := by
 rw [ext_ok h, if_neg (by simpa using hs), if_neg]
 simp only [Bool.or_eq_true, decide_eq_true_eq, Bool.or_eq_false_iff, beq_eq_false_iff_ne] at h6 ⊢
 rintro (h7 | h7)
 ·rw [h6.1] at h7; cases h7
 ·exact h6.2 (by omega)
theorem sExtend.ret (b : List VPair) (v x : Str) (h : tPairs.size b ≤ 1048576) (hv : v.length ≤ 1048576) (hx : x.length ≤ 1048576) :
 sExtend.Ret [.list none (pairs b), .str v, .str x] (.tup [.list (some 0) (pairs ((extF b v x).getD [])), .val (.bool (extF b v x).isSome)]) [(141, 2, ((extF b v x).getD []).length)] := by
 refine sExtend.ir.of rfl ?_
 generalize ho : extF b v x = o
 repeat' first
  | (conv => whnf
     first | refine Need.mk (fun h => h) ?_ | refine Need.mk rfl ?_ | refine Fork.mk (fun _ => ?_) (fun _ => ?_) | refine FinVal.keep ?_ | refine Final.mk ?_ ?_ | refine ACall.scalA _ _ (sIsBinding.ret _ ?_) rfl ?_ | refine AGCall.mkA _ _ (fun hg => sIsVar.ret _ ?_) rfl ?_ | refine AGCall.mkA _ _ (fun hg => sIsAtom.ret _ ?_) rfl ?_ | refine ACall.scalA _ _ (sValueOf.ret _ _ ?_ ?_) rfl ?_ | refine ACall.mkLA _ _ _ _ (sCopyB.ret _ ?_) ?_ | refine ACall.mkLA _ _ _ _ (sSet.ret _ _ _ ?_) ?_)
  | refine fr1 ?_
 ·exact h
 ·exact hv
 ·exact hx
 ·rename_i hc; rw [ext_none hc] at ho; subst ho; rfl
 ·rename_i hc; rw [ext_none hc] at ho; subst ho; rfl
 ·exact h
 ·exact hv
 ·exact h
 ·rename_i hc hs; rw [ext_same hc hs] at ho; subst ho; rfl
 ·rename_i hc hs; rw [ext_same hc hs] at ho; subst ho; rfl
 all_goals (try simp only [length_rows] at *)
 ·rename_i hc hs h6; rw [ext_full hc hs h6] at ho; subst ho; rfl
 ·rename_i hc hs h6; rw [ext_full hc hs h6] at ho; subst ho; rfl
 ·exact h
 ·rename_i hc hs h6; rw [ext_new hc hs h6] at ho; subst ho; rfl
 ·rename_i hc hs h6; rw [ext_new hc hs h6] at ho; subst ho; rfl
theorem matS_no {e : List VPair} {t x : Str} {l : List (Str × Str)} (ha : atomF t = true) (h : t ≠ x) : matS e ((t, x) :: l) = none := by simp [matS, ha, h]
theorem matS_at {e : List VPair} {t x : Str} {l : List (Str × Str)} (ha : atomF t = true) (h : t = x) : matS e ((t, x) :: l) = matS e l := by subst h; simp [matS, ha]
theorem matS_var {e : List VPair} {t x : Str} {l : List (Str × Str)} (ha : atomF t = false) : matS e ((t, x) :: l) = match extF e t x with | some e' => matS e' l | none => none := by simp only [matS, ha, Bool.false_eq_true, if_false] <;> (cases extF e t x <;> rfl)
def matM (p : VPattern) (f : Fct) (b : List VPair) : Option (List VPair) :=
 if isPatF p && isFactF f && bindF b && decide (p.1 = f.1) && decide (p.2.length = f.2.length) then matS b (p.2.zip f.2) else none
theorem own_tup' {α : Type} (T : Ty α) (hf : ∀ a, T.fr a = []) (e : ∀ a, T.tk a 0 = oldL (T.q a)) {F : Fr} {t k : Nat} {l : List α} (v : Value) (hv : plainV v = true) (hk : F[k]? = some (t, T.sz, l.length)) :
 ∃ ts, OwnA F [.p [.l t T.sz (l.map T.q), .v v]] [.tup [.list (some k) (rows T l), .val v]] ts ∧ ts.Nodup := by
 have := OwnA.p _ _ (plain_ownA T hf e F t k l hk (.v v hv .nil)) .nil
 rw [List.append_nil] at this
 exact ⟨[k], this, by simp⟩
theorem sMatchFact.own (p : VPattern) (f : Fct) (b : List VPair) (h1 : tPattern.size p ≤ 1048576) (h2 : tFct.size f ≤ 1048576) (h3 : tPairs.size b ≤ 1048576) :
 sMatchFact.Own [.agg (oldL (tPattern.q p)), .agg (oldL (tFct.q f)), .list none (pairs b)] (.p [.l 141 2 (((matM p f b).getD []).map tPair.q), .v (.bool (matM p f b).isSome)]) := by
 refine Abs.IrAt.ownP sMatchFact.ir rfl ?_
 have s1 : tFct.size p ≤ 1048576 := h1
 have s2 := h2
 have s3 := h3
 rw [tFct_size, tStrs_size] at s1 s2
 rw [tPairs_sz] at s3
 generalize ho : matM p f b = o
 have ecast : ((p.2.length : Int) != (f.2.length : Int)) = (p.2.length != f.2.length) := by rw [Bool.eq_iff_iff]; simp; omega
 repeat' first
  | (conv => whnf
     first | refine Need.mk (fun h => h) ?_ | refine Need.mk rfl ?_ | refine nb_ ?_ | refine Fork.mk (fun _ => ?_) (fun _ => ?_) | refine FinVal.keep ?_ | refine ACall.scalA _ _ (sIsPattern.ret _ ?_) rfl ?_ | refine AGCall.mkA _ _ (fun hg => sIsFact.ret _ ?_) rfl ?_ | refine AGCall.mkA _ _ (fun hg => sIsBinding.ret _ ?_) rfl ?_ | refine ACall.mkLA _ _ _ _ (sCopyB.ret _ ?_) ?_)
 ·exact h1
 ·exact h2
 ·exact h3
 ·rename_i hc
  simp only [length_oldLL, List.length_map, ecast] at hc
  have : o = none := by
   rw [← ho, matM, if_neg (fun hn => ?_)]
   revert hc hn
   cases isPatF p <;> cases isFactF f <;> cases bindF b <;> simp_all
   rintro (h | h) h'
   ·exact absurd h' h
   ·exact h
  subst this
  exact own_tup' tPair (fun _ => rfl) (fun _ => rfl) (.bool false) rfl rfl
 ·exact h3
 rename_i hc
 simp only [length_oldLL, List.length_map, ecast] at hc
 have hc : (isPatF p && isFactF f && bindF b && decide (p.1 = f.1) && decide (p.2.length = f.2.length)) = true := by
  revert hc
  cases isPatF p <;> cases isFactF f <;> cases bindF b <;> simp_all
 rw [matM, if_pos hc] at ho
 simp only [Bool.and_eq_true, decide_eq_true_eq] at hc
 obtain ⟨⟨⟨⟨hpat, hfct⟩, hb⟩, _⟩, hlen⟩ := hc
 refine ALoop.mk (Nat × Fr × Nat × List VPair) (fun i => ⟨[(0, .agg (oldL (tPattern.q p))), (1, .agg (oldL (tFct.q f))), (2, .list none (pairs b)), (3, .bptr 0 0), (4, .bptr 1 0), (8, .list (some i.2.2.1) (pairs i.2.2.2)), (9, .val (.int .i64 i.1))], [.cells .var (oldL (tPattern.q p)), .cells .var (oldL (tFct.q f))], i.2.1⟩)
  (fun i => i.1 ≤ p.2.length ∧ i.2.1[i.2.2.1]? = some (141, 2, i.2.2.2.length) ∧ bindF i.2.2.2 = true ∧ matS i.2.2.2 ((p.2.zip f.2).drop i.1) = o) (fun i => p.2.length - i.1) ⟨(0, [(141, 2, b.length)], 0, b), ⟨Nat.zero_le _, rfl, hb, ho⟩, ?_⟩ (fun i hi => ?_)
 ·repeat' first
   | exact trivial | refine wl_ ?_ ?_ ?_ ?_ | refine And.intro ?_ ?_ | with_reducible rfl | exact ble_ | refine fr1 ?_ | refine AV.int_congr ?_ | refine AV.list_congr ?_ | (apply rfl)
 obtain ⟨i, F, k, e⟩ := i
 obtain ⟨hi, hF, hbe, hm⟩ := hi
 simp only at hi hF hbe hm
 have hal := str_le' p.2 i
 have hzl := str_le' f.2 i
 repeat' first
  | (conv => whnf
     first | refine Need.mk rfl ?_ | refine Ix.strsF rfl ?_ | refine Fork.dec (fun _ => ?_) (fun _ => ?_) | refine Fork.sne (fun _ => ?_) (fun _ => ?_) | refine Fork.neg (fun _ => ?_) (fun _ => ?_) | refine Fork.mk (fun _ => ?_) (fun _ => ?_) | refine Round.mk ?_ | refine FinVal.keep ?_ | refine ACall.scalA _ _ (sIsAtom.ret _ ?_) rfl ?_ | refine ACall.mkTB tPair _ _ _ _ (sExtend.ret _ _ _ ?_ ?_ ?_) (by repeat' first | exact SeesL.nil | refine SeesL.cons ?_ ?_ | exact SeesB.of0 (Sees0.val _) | exact SeesB.of0 (Sees0.str _) | exact SeesB.of0 (Sees0.olds _ _) | exact SeesB.of0 (Sees0.old _) | exact SeesB.of0 (Sees0.oldagg _) | exact SeesB.of0 Sees0.nil | exact Sees0.val _ | exact Sees0.str _ | exact Sees0.olds _ _ | exact Sees0.old _ | exact Sees0.oldagg _ | exact Sees0.nil | exact SeesB.of0 (Sees0.any _) | assumption | exact sees_gv _ _ _ (by assumption) (by first | assumption | exact BoxIn.last _ _ | exact BoxIn.more (BoxIn.last _ _) _) | refine SeesB.agg ?_ | refine Sees0.agg ?_ | exact SeesB.of0 (Sees0.clo SeesL.nil SeesL.nil) | exact Sees0.clo SeesL.nil SeesL.nil | exact SeesB.of0 (Sees0.list rfl) | exact Sees0.list rfl) ?_)
 all_goals (try simp only [length_oldLL, List.length_map, Int.toNat_natCast] at *)
 ·omega
 ·rename_i ha hne hlt
  rw [zip_drop (by omega) (by omega), matS_no ha hne] at hm
  subst hm
  exact own_tup' tPair (fun _ => rfl) (fun _ => rfl) (.bool false) rfl (by simp; rfl)
 ·rename_i ha heq hlt
  rw [zip_drop (by omega) (by omega), matS_at ha heq] at hm
  refine ⟨(i + 1, F, k, e), ⟨by simp only; omega, hF, hbe, hm⟩, ?_, by simp only; omega⟩
  repeat' first
   | exact trivial | refine wl_ ?_ ?_ ?_ ?_ | refine And.intro ?_ ?_ | with_reducible rfl | exact ble_ | refine AV.int_congr ?_ | refine AV.list_congr ?_ | (apply rfl)
  rw [wrap64 (by omega) (by omega)]; rfl
 ·exact bind_size hbe
 ·omega
 ·omega
 ·rename_i ha hno hlt
  have hx := Option.isSome_eq_false_iff.1 hno
  rw [zip_drop (by omega) (by omega), matS_var ha, Option.isNone_iff_eq_none.1 hx] at hm
  have hm : none = o := hm
  subst hm
  exact own_tup' tPair (fun _ => rfl) (fun _ => rfl) (.bool false) rfl (by simp; rfl)
 ·rename_i ha hso hlt
  obtain ⟨e', he⟩ := Option.isSome_iff_exists.1 hso
  rw [zip_drop (by omega) (by omega), matS_var ha, he] at hm
  have hm : matS e' ((p.2.zip f.2).drop (i + 1)) = o := hm
  refine ⟨(i + 1, F ++ [(141, 2, e'.length)], F.length, e'), ⟨by simp only; omega, by simp, extF_bind he, hm⟩, ?_, by simp only; omega⟩
  rw [he]
  repeat' first
   | exact trivial | refine wl_ ?_ ?_ ?_ ?_ | refine And.intro ?_ ?_ | with_reducible rfl | exact ble_ | refine AV.int_congr ?_ | refine AV.list_congr ?_ | (apply rfl)
  rw [wrap64 (by omega) (by omega)]; rfl
 ·have e0 : (p.2.zip f.2).drop i = [] := List.drop_eq_nil_of_le (by simp; omega)
  rw [e0, matS] at hm
  subst hm
  exact own_tup' tPair (fun _ => rfl) (fun _ => rfl) (l := e) (.bool true) rfl hF
open Abs
theorem matM_eq (p : VPattern) (f : Fct) (b : List VPair) : matM p f b = matF p f b := by
 unfold matM matF
 by_cases hc : (decide (p.1 = f.1) && isPatF p && isFactF f && bindF b) = true
 ·rw [if_pos hc]
  have hc' := hc
  simp only [Bool.and_eq_true] at hc'
  obtain ⟨⟨⟨h1, h2⟩, h3⟩, h4⟩ := hc'
  rw [h1, h2, h3, h4]
  simp only [Bool.true_and, decide_eq_true_eq]
  unfold turnF
  by_cases hl : p.2.length = f.2.length
  ·rw [if_pos hl, if_pos hl]
   refine matS_eq _ (like_self h4) h4 (fun q hq => ?_)
   have h5 : p.2.all termF = true := by
    unfold isPatF tupF at h2; simp only [Bool.and_eq_true] at h2; exact h2.2
   have h6 : f.2.all atomF = true := by
    unfold isFactF at h3; simp only [Bool.and_eq_true] at h3; exact h3.2
   obtain ⟨t, x⟩ := q
   have h7 := List.of_mem_zip hq
   exact ⟨List.all_eq_true.1 h5 t h7.1, List.all_eq_true.1 h6 x h7.2⟩
  ·rw [if_neg hl, if_neg hl]; rfl
 ·rw [if_neg hc, if_neg]
  intro hn
  apply hc
  simp only [Bool.and_eq_true] at hn ⊢
  obtain ⟨⟨⟨⟨a, b⟩, c⟩, d⟩, _⟩ := hn
  exact ⟨⟨⟨d, a⟩, b⟩, c⟩
open Abs
def mchF (p : VPattern) (b : List VPair) (l : List Fct) : List Fct := l.filter fun f => (matM p f b).isSome
theorem mch_yes {p : VPattern} {b : List VPair} {l : List Fct} {i : Nat} (hi : i < l.length) (h : (matM p (l.getD i default) b).isSome = true) : mchF p b (l.take (i + 1)) = mchF p b (l.take i) ++ [l.getD i default] := by
 rw [take_succ' default hi, mchF, List.filter_append]
 simp only [List.filter_cons, h]; simp [mchF]
theorem mch_no {p : VPattern} {b : List VPair} {l : List Fct} {i : Nat} (hi : i < l.length) (h : (matM p (l.getD i default) b).isSome = false) : mchF p b (l.take (i + 1)) = mchF p b (l.take i) := by
 rw [take_succ' default hi, mchF, List.filter_append]
 simp only [List.filter_cons, h]; simp [mchF]
theorem mch_len (p : VPattern) (b : List VPair) (l : List Fct) (i : Nat) : (mchF p b (l.take i)).length ≤ l.length := by
 refine Nat.le_trans (List.length_filter_le _ _) ?_
 rw [List.length_take]; omega
theorem ok_mat (l : List VPair) (v : Bool) : okT (.p [.l 141 2 (l.map tPair.q), .v (.bool v)]) = true := by
 have := ok_list tPair 141 l
 simp [okT, okTL] at this ⊢
 exact this
theorem sMatchingFacts.ret (p : VPattern) (b : List VPair) (l : List Fct) (h1 : tPattern.size p ≤ 1048576) (h2 : tPairs.size b ≤ 1048576) (h : tFcts.size l ≤ 1048576) :
 sMatchingFacts.Ret [.agg (oldL (tPattern.q p)), .list none (pairs b), .list none (facts l)] (.list (some 0) (tks tFct (mchF p b l) 1)) (accFr (mchF p b l)) := by
 refine sMatchingFacts.ir.of rfl ?_
 rw [tFcts_size] at h
 repeat' first
  | (conv => whnf
     first | refine Need.mk rfl ?_)
 refine ALoop.mk Nat (fun i => ⟨[(0, .agg (oldL (tPattern.q p))), (1, .list none (pairs b)), (2, .list none (facts l)), (3, .bptr 0 0), (7, .list (some 0) (tks tFct (mchF p b (l.take i)) 1)), (8, .val (.int .i64 i))], [.cells .var (oldL (tPattern.q p))], accFr (mchF p b (l.take i))⟩) (fun i => i ≤ l.length) (fun i => l.length - i) ⟨0, Nat.zero_le _, ?_⟩ (fun i hi => ?_)
 ·repeat' first
   | exact trivial | refine wl_ ?_ ?_ ?_ ?_ | refine And.intro ?_ ?_ | with_reducible rfl | exact ble_ | refine fr1 ?_ | refine AV.int_congr ?_ | refine AV.list_congr ?_ | (apply rfl)
 have hlen := mch_len p b l i
 have hsz : i < l.length → tFct.size (l.getD i default) ≤ 1048576 := fun hi => by have := fct_le hi; omega
 by_cases hi' : i < l.length
 rotate_left
 ·repeat' first
   | (conv => whnf
      first | refine Need.mk rfl ?_ | refine nb_ ?_ | refine Ix.mapF (fun _ => rfl) ?_ | refine Fork.dec (fun _ => ?_) (fun _ => ?_) | refine Final.mk ?_ ?_)
   | refine AV.list_congr ?_
  all_goals try simp only [length_rows, length_strs, length_oldLL, List.length_map, Int.toNat_natCast] at *
  all_goals first
   | omega
   | (rw [List.take_of_length_le (by omega)]; done)
   | (rename_i h9; omega)
 have hm := sMatchFact.own p (l.getD i default) b h1 (hsz hi') h2
 have hok := ok_mat ((matM p (l.getD i default) b).getD []) (matM p (l.getD i default) b).isSome
 repeat' first
  | (conv => whnf
     first | refine Need.mk rfl ?_ | refine nb_ ?_ | refine Need.mk ?_ ?_ | refine Ix.mapF (fun _ => rfl) ?_ | refine Fork.dec (fun _ => ?_) (fun _ => ?_) | refine Fork.mk (fun _ => ?_) (fun _ => ?_) | refine Round.mk ?_ | refine Lit.read rfl ?_ | refine Final.mk ?_ ?_ | refine ACall.oldA _ _ (hm) ?_ | refine ACall.mkFct _ _ (sCopy.ret _ ?_) (by repeat' first | exact SeesL.nil | refine SeesL.cons ?_ ?_ | exact SeesB.of0 (Sees0.val _) | exact SeesB.of0 (Sees0.str _) | exact SeesB.of0 (Sees0.olds _ _) | exact SeesB.of0 (Sees0.old _) | exact SeesB.of0 (Sees0.oldagg _) | exact SeesB.of0 Sees0.nil | exact Sees0.val _ | exact Sees0.str _ | exact Sees0.olds _ _ | exact Sees0.old _ | exact Sees0.oldagg _ | exact Sees0.nil | exact SeesB.of0 (Sees0.any _) | assumption | exact sees_gv _ _ _ (by assumption) (by first | assumption | exact BoxIn.last _ _ | exact BoxIn.more (BoxIn.last _ _) _) | refine SeesB.agg ?_ | refine Sees0.agg ?_ | exact SeesB.of0 (Sees0.clo SeesL.nil SeesL.nil) | exact Sees0.clo SeesL.nil SeesL.nil | exact SeesB.of0 (Sees0.list rfl) | exact Sees0.list rfl) ?_)
  | refine AV.list_congr ?_
 all_goals try simp only [length_rows, length_strs, length_oldLL, List.length_map, Int.toNat_natCast] at *
 ·exact hsz hi'
 ·rw [length_tks]
 ·intro c hc; rw [List.mem_singleton.1 hc]; exact tFct.htk _ _
 ·rw [length_tks]; simp only [List.length_singleton]; omega
 ·have h1 : (matM p (l.getD i default) b).isSome = true := by assumption
  refine ⟨i + 1, by omega, ?_, by omega⟩
  repeat' first
   | exact trivial | refine wl_ ?_ ?_ ?_ ?_ | refine And.intro ?_ ?_ | with_reducible rfl | exact ble_ | refine AV.int_congr ?_ | refine AV.list_congr ?_ | (apply rfl)
  ·rw [acc_snoc, mch_yes hi' h1]
  ·rw [wrap64 (by omega) (by omega)]; rfl
  ·rw [length_tks, mch_yes hi' h1]; exact accFr_snoc _ _
 ·have h1 : (matM p (l.getD i default) b).isSome = false := by assumption
  refine ⟨i + 1, by omega, ?_, by omega⟩
  repeat' first
   | exact trivial | refine wl_ ?_ ?_ ?_ ?_ | refine And.intro ?_ ?_ | with_reducible rfl | exact ble_ | refine AV.int_congr ?_ | refine AV.list_congr ?_ | (apply rfl)
  ·rw [mch_no hi' h1]
  ·rw [wrap64 (by omega) (by omega)]; rfl
  ·rw [mch_no hi' h1]
 all_goals (exfalso; omega)
theorem pMatchingFacts.ret (p : VPattern) (b : List VPair) (l : List Fct) (h1 : tPattern.size p ≤ 1048576) (h2 : tPairs.size b ≤ 1048576) (h : tFcts.size l ≤ 1048576) :
 pMatchingFacts.RetN [.agg (oldL (tPattern.q p)), .list none (pairs b), .list none (facts l)] (.list (some 0) (tks tFct (mchF p b l) 1)) (accFr (mchF p b l)) := by
 refine pMatchingFacts.ir.of rfl ?_
 rw [tFcts_size] at h
 repeat' first
  | (conv => whnf
     first | refine Need.mk rfl ?_)
 refine ALoop.mk Nat (fun i => ⟨[(0, .agg (oldL (tPattern.q p))), (1, .list none (pairs b)), (2, .list none (facts l)), (3, .bptr 0 0), (7, .list (some 0) (tks tFct (mchF p b (l.take i)) 1)), (13, .list none (facts l)), (14, .val (.int .i64 l.length)), (15, .val (.int .i64 i))], [.cells .var (oldL (tPattern.q p))], accFr (mchF p b (l.take i))⟩) (fun i => i ≤ l.length) (fun i => l.length - i) ⟨0, Nat.zero_le _, ?_⟩ (fun i hi => ?_)
 ·repeat' first
   | exact trivial | refine wl_ ?_ ?_ ?_ ?_ | refine And.intro ?_ ?_ | with_reducible rfl | exact ble_ | refine fr1 ?_ | refine AV.int_congr ?_ | refine AV.list_congr ?_ | (apply rfl)
  simp
 have hlen := mch_len p b l i
 have hsz : i < l.length → tFct.size (l.getD i default) ≤ 1048576 := fun hi => by have := fct_le hi; omega
 by_cases hi' : i < l.length
 rotate_left
 ·repeat' first
   | (conv => whnf
      first | refine Need.mk rfl ?_ | refine Fork.decNo (by omega) ?_ | refine Final.mk ?_ ?_)
   | refine AV.list_congr ?_
  all_goals try simp only [length_rows, length_strs, length_oldLL, List.length_map, Int.toNat_natCast] at *
  all_goals first
   | omega
   | (rw [List.take_of_length_le (by omega)]; done)
   | (rename_i h9; omega)
 have hm := (matM_eq p (l.getD i default) b).symm ▸ pMatchFact.own p (l.getD i default) b h1 (hsz hi') h2
 have hok := ok_mat ((matM p (l.getD i default) b).getD []) (matM p (l.getD i default) b).isSome
 repeat' first
  | (conv => whnf
     first | refine Need.mk rfl ?_ | refine Need.mk ⟨rfl, Nat.le_of_ble_eq_true rfl⟩ ?_ | refine nb_ ?_ | refine Need.mk ?_ ?_ | refine Ix.mapF (fun _ => rfl) ?_ | refine Fork.decYes (by omega) ?_ | refine Fork.mk (fun _ => ?_) (fun _ => ?_) | refine Round.mk ?_ | refine Lit.read rfl ?_ | refine ACall.oldA _ _ (hm) ?_ | refine ACall.mkFct _ _ (Ret.weak (pcopyFact.ret _ ?_)) (by repeat' first | exact SeesL.nil | refine SeesL.cons ?_ ?_ | exact SeesB.of0 (Sees0.val _) | exact SeesB.of0 (Sees0.str _) | exact SeesB.of0 (Sees0.olds _ _) | exact SeesB.of0 (Sees0.old _) | exact SeesB.of0 (Sees0.oldagg _) | exact SeesB.of0 Sees0.nil | exact Sees0.val _ | exact Sees0.str _ | exact Sees0.olds _ _ | exact Sees0.old _ | exact Sees0.oldagg _ | exact Sees0.nil | exact SeesB.of0 (Sees0.any _) | assumption | exact sees_gv _ _ _ (by assumption) (by first | assumption | exact BoxIn.last _ _ | exact BoxIn.more (BoxIn.last _ _) _) | refine SeesB.agg ?_ | refine Sees0.agg ?_ | exact SeesB.of0 (Sees0.clo SeesL.nil SeesL.nil) | exact Sees0.clo SeesL.nil SeesL.nil | exact SeesB.of0 (Sees0.list rfl) | exact Sees0.list rfl) ?_)
 all_goals try simp only [length_rows, length_strs, length_oldLL, List.length_map, Int.toNat_natCast] at *
 ·exact hsz hi'
 ·rw [length_tks]
 ·intro c hc; rw [List.mem_singleton.1 hc]; exact tFct.htk _ _
 ·rw [length_tks]; simp only [List.length_singleton]; omega
 ·have h1 : (matM p (l.getD i default) b).isSome = true := by assumption
  refine ⟨i + 1, by omega, ?_, by omega⟩
  repeat' first
   | exact trivial | refine wr_ ?_ ?_ ?_ ?_ | refine And.intro ?_ ?_ | with_reducible rfl | exact ble_ | refine AV.int_congr ?_ | refine AV.list_congr ?_ | (apply rfl)
  ·rw [acc_snoc, mch_yes hi' h1]
  ·rw [wrap64 (by omega) (by omega)]; rfl
  ·rw [length_tks, mch_yes hi' h1]; exact accFr_snoc _ _
 ·have h1 : (matM p (l.getD i default) b).isSome = false := by assumption
  refine ⟨i + 1, by omega, ?_, by omega⟩
  repeat' first
   | exact trivial | refine wr_ ?_ ?_ ?_ ?_ | refine And.intro ?_ ?_ | with_reducible rfl | exact ble_ | refine AV.int_congr ?_ | refine AV.list_congr ?_ | (apply rfl)
  ·rw [mch_no hi' h1]
  ·rw [wrap64 (by omega) (by omega)]; rfl
  ·rw [mch_no hi' h1]
 all_goals (exfalso; omega)
theorem sMatchingFacts.own (p : VPattern) (b : List VPair) (l : List Fct) (h1 : tPattern.size p ≤ 1048576) (h2 : tPairs.size b ≤ 1048576) (h : tFcts.size l ≤ 1048576) :
 sMatchingFacts.Own [.agg (oldL (tPattern.q p)), .list none (pairs b), .list none (facts l)] (fctsT (mchF p b l)) := acc_own (sMatchingFacts.ret p b l h1 h2 h)
theorem pMatchingFacts.own (p : VPattern) (b : List VPair) (l : List Fct) (h1 : tPattern.size p ≤ 1048576) (h2 : tPairs.size b ≤ 1048576) (h : tFcts.size l ≤ 1048576) :
 pMatchingFacts.OwnN [.agg (oldL (tPattern.q p)), .list none (pairs b), .list none (facts l)] (fctsT (mchF p b l)) := acc_own (pMatchingFacts.ret p b l h1 h2 h)
open Abs
def holdsCF (x : VCond) (b : List VPair) (l : List Fct) : Bool := isCondF x && bindF b && (if x.1 = 1 then decide (0 < ((mchF x.2.1 b l).length : Int)) else if x.1 = 2 then ((mchF x.2.1 b l).length : Int) == 0 else holdsTF x b)
theorem hcond_no {x : VCond} {b : List VPair} {l : List Fct} (h : (!isCondF x || !bindF b) = true) : false = holdsCF x b l := by
 unfold holdsCF; revert h; cases isCondF x <;> cases bindF b <;> simp
theorem hcond_at {x : VCond} {b : List VPair} {l : List Fct} (h : (!isCondF x || !bindF b) = false) : (if x.1 = 1 then decide (0 < ((mchF x.2.1 b l).length : Int)) else if x.1 = 2 then ((mchF x.2.1 b l).length : Int) == 0 else holdsTF x b) = holdsCF x b l := by
 unfold holdsCF; revert h; cases isCondF x <;> cases bindF b <;> simp
theorem sHoldsCond.ret (x : VCond) (b : List VPair) (l : List Fct) (h1 : tCond.size x ≤ 1048576) (h2 : tPairs.size b ≤ 1048576) (h : tFcts.size l ≤ 1048576) :
 sHoldsCond.Ret [.agg (oldL (tCond.q x)), .list none (pairs b), .list none (facts l)] (.val (.bool (holdsCF x b l))) [] := by
 refine sHoldsCond.ir.ofS rfl rfl ?_
 have hp := tCond_pat x
 have hm := sMatchingFacts.own x.2.1 b l (by omega) h2 h
 have hok : okT (fctsT (mchF x.2.1 b l)) = true := ok_list tFct _ _
 repeat' first
  | (conv => whnf
     first | refine Need.mk (fun h => h) ?_ | refine Need.mk rfl ?_ | refine nb_ ?_ | refine Fork.dec (fun _ => ?_) (fun _ => ?_) | refine Fork.mk (fun _ => ?_) (fun _ => ?_) | refine FinVal.keep ?_ | refine Final.mk ?_ rfl | refine ACall.scalA _ _ (sIsCond.ret _ ?_) rfl ?_ | refine AGCall.mkA _ _ (fun hg => sIsBinding.ret _ ?_) rfl ?_ | refine ACall.oldA _ _ (hm) ?_ | refine ACall.scalA _ _ (sHoldsTest.ret _ _ ?_ ?_) rfl ?_)
  | refine AV.bool_congr ?_
 all_goals first
  | assumption
  | exact hcond_no (by assumption)
  | (rw [length_oldLL, List.length_map, ← hcond_at (by assumption), if_pos (by assumption)])
  | (rw [length_oldLL, List.length_map, ← hcond_at (by assumption), if_neg (by assumption), if_pos (by assumption)])
  | (rw [← hcond_at (by assumption), if_neg (by assumption), if_neg (by assumption)])
theorem pHoldsCond.ret (x : VCond) (b : List VPair) (l : List Fct) (h1 : tCond.size x ≤ 1048576) (h2 : tPairs.size b ≤ 1048576) (h : tFcts.size l ≤ 1048576) :
 pHoldsCond.RetN [.agg (oldL (tCond.q x)), .list none (pairs b), .list none (facts l)] (.val (.bool (holdsCF x b l))) [] := by
 refine pHoldsCond.ir.ofS rfl rfl ?_
 have hp := tCond_pat x
 have hm := pMatchingFacts.own x.2.1 b l (by omega) h2 h
 have hok : okT (fctsT (mchF x.2.1 b l)) = true := ok_list tFct _ _
 repeat' first
  | (conv => whnf
     first | refine Need.mk (fun h => h) ?_ | refine Need.mk rfl ?_ | refine nb_ ?_ | refine Fork.dec (fun _ => ?_) (fun _ => ?_) | refine Fork.mk (fun _ => ?_) (fun _ => ?_) | refine FinVal.keep ?_ | refine Final.mk ?_ rfl | refine ACall.scalA _ _ (Ret.weak (pIsCond.ret _ ?_)) rfl ?_ | refine AGCall.mkA _ _ (fun hg => Ret.weak (pIsBinding.ret _ ?_)) rfl ?_ | refine ACall.oldA _ _ (hm) ?_ | refine ACall.scalA _ _ (Ret.weak (pHoldsTest.ret _ _ ?_ ?_)) rfl ?_)
  | refine AV.bool_congr ?_
 all_goals first
  | assumption
  | exact hcond_no (by assumption)
  | (rw [length_oldLL, List.length_map, ← hcond_at (by assumption), if_pos (by assumption)])
  | (rw [length_oldLL, List.length_map, ← hcond_at (by assumption), if_neg (by assumption), if_pos (by assumption)])
  | (rw [← hcond_at (by assumption), if_neg (by assumption), if_neg (by assumption)])
open Abs
theorem tPair_canon : Canon tPair := Canon.pair Canon.str Canon.str
theorem tStrs_canon : Canon tStrs := Canon.plain _ _ _ Canon.str
theorem tFct_canon : Canon tFct := Canon.pair Canon.str tStrs_canon
theorem tFcts_canon : Canon tFcts := Canon.list _ tFct_canon
theorem tPairs_canon : Canon tPairs := Canon.plain _ _ _ tPair_canon
theorem tToken_canon : Canon tToken := Canon.pair tFcts_canon tPairs_canon
theorem tTokens_canon : Canon tTokens := Canon.list _ tToken_canon
theorem tMatch_canon : Canon tMatch := Canon.pair Canon.str tToken_canon
def nextF (l : List Fct) (x : VCond) (t : VToken) : List VToken :=
 if x.1 = 1 then l.filterMap fun f => (matM x.2.1 f t.2).map fun b => (t.1 ++ [f], b) else if holdsCF x t.2 l then [t] else []
def stepF (l : List Fct) (ts : List VToken) (x : VCond) : List VToken := ts.flatMap (nextF l x)
@[irreducible] def toksF (l : List Fct) (cs : List VCond) : List VToken := cs.foldl (stepF l) [([], [])]
theorem toksF_nil (l : List Fct) : toksF l [] = [([], [])] := by unfold toksF; rfl
theorem toksF_snoc (l : List Fct) (cs : List VCond) (x : VCond) : toksF l (cs ++ [x]) = stepF l (toksF l cs) x := by unfold toksF; rw [List.foldl_append]; rfl
theorem toksF_succ (l : List Fct) {cs : List VCond} {i : Nat} (hi : i < cs.length) : toksF l (cs.take (i + 1)) = stepF l (toksF l (cs.take i)) (cs.getD i default) := by
 rw [take_succ' default hi, toksF_snoc]
theorem stepF_take {l : List Fct} {x : VCond} {ts : List VToken} {i : Nat} (hi : i < ts.length) : stepF l (ts.take (i + 1)) x = stepF l (ts.take i) x ++ nextF l x (ts.getD i default) := by
 rw [take_succ' default hi, stepF, List.flatMap_append]; simp [stepF]
structure GoodT (l : List Fct) (n : Nat) (t : VToken) : Prop where
 le : t.1.length ≤ n
 mem : ∀ f ∈ t.1, f ∈ l
 bind : bindF t.2 = true
theorem matS_bind : ∀ (l : List (Str × Str)) {e e' : List VPair}, bindF e = true → matS e l = some e' → bindF e' = true
 | [], e, e', h, hm => by rw [matS] at hm; cases hm; exact h
 | q :: l, e, e', h, hm => by
  rw [matS] at hm
  split at hm
  ·split at hm
   ·exact matS_bind l h hm
   ·cases hm
  ·cases he : extF e q.1 q.2 with
   | none => rw [he] at hm; cases hm
   | some e2 => rw [he] at hm; exact matS_bind l (extF_bind he) hm
theorem matM_bind {p : VPattern} {f : Fct} {b e : List VPair} (h : matM p f b = some e) : bindF e = true := by
 unfold matM at h
 split at h
 ·rename_i hc
  simp only [Bool.and_eq_true] at hc
  exact matS_bind _ hc.1.1.2 h
 ·cases h
theorem bindF_nil : bindF [] = true := (bindF_iff []).2 ⟨Nat.zero_le _, by simp, List.Pairwise.nil⟩
theorem nextF_good {l : List Fct} {x : VCond} {n : Nat} {t t' : VToken} (h : GoodT l n t) (ht : t' ∈ nextF l x t) : GoodT l (n + 1) t' := by
 unfold nextF at ht
 split at ht
 ·obtain ⟨f, hf, he⟩ := List.mem_filterMap.1 ht
  obtain ⟨b, hb, rfl⟩ := Option.map_eq_some_iff.1 he
  refine ⟨by have := h.le; simp only [List.length_append, List.length_singleton]; omega, fun g hg => ?_, matM_bind hb⟩
  rcases List.mem_append.1 hg with hg | hg
  ·exact h.mem g hg
  ·rw [List.mem_singleton.1 hg]; exact hf
 ·split at ht
  ·rw [List.mem_singleton.1 ht]; exact ⟨by have := h.le; omega, h.mem, h.bind⟩
  ·cases ht
theorem stepF_good {l : List Fct} {x : VCond} {n : Nat} {ts : List VToken} (h : ∀ t ∈ ts, GoodT l n t) : ∀ t ∈ stepF l ts x, GoodT l (n + 1) t := fun t ht => by
 obtain ⟨u, hu, ht⟩ := List.mem_flatMap.1 ht
 exact nextF_good (h u hu) ht
theorem toksF_good (l : List Fct) (cs : List VCond) : ∀ (k : Nat), k ≤ cs.length → ∀ t ∈ toksF l (cs.take k), GoodT l k t
 | 0, _, t, ht => by
  rw [List.take_zero, toksF_nil] at ht
  rw [List.mem_singleton.1 ht]; exact ⟨Nat.le_refl _, by simp, bindF_nil⟩
 | k + 1, hk, t, ht => by
  rw [toksF_succ l (by omega)] at ht
  exact stepF_good (toksF_good l cs k (by omega)) t ht
theorem nextF_len {l : List Fct} (hl : l.length ≤ 24) (x : VCond) (t : VToken) : (nextF l x t).length ≤ 24 := by
 unfold nextF
 split
 ·exact Nat.le_trans (List.length_filterMap_le _ _) hl
 ·split <;> simp
theorem stepF_len {l : List Fct} (hl : l.length ≤ 24) (x : VCond) : ∀ ts : List VToken, (stepF l ts x).length ≤ 24 * ts.length
 | [] => Nat.le_refl _
 | t :: ts => by
  have h1 := nextF_len hl x t
  have h2 := stepF_len hl x ts
  rw [stepF, List.flatMap_cons, List.length_append, List.length_cons]
  rw [stepF] at h2
  omega
theorem toksF_len {l : List Fct} (hl : l.length ≤ 24) (cs : List VCond) : ∀ (k : Nat), k ≤ cs.length → (toksF l (cs.take k)).length ≤ 24 ^ k
 | 0, _ => by rw [List.take_zero, toksF_nil]; exact Nat.le_refl _
 | k + 1, hk => by
  rw [toksF_succ l (by omega)]
  have h1 := stepF_len hl (cs.getD k default) (toksF l (cs.take k))
  have h2 := toksF_len hl cs k (by omega)
  rw [Nat.pow_succ]; omega
theorem pow24 {k : Nat} (h : k ≤ 4) : 24 ^ k ≤ 331776 := Nat.le_trans (Nat.pow_le_pow_right (by decide) h) (by decide)
theorem toksF_len4 {l : List Fct} (hl : l.length ≤ 24) {cs : List VCond} (hc : cs.length ≤ 4) (k : Nat) : (toksF l (cs.take k)).length ≤ 331776 := by
 rcases Nat.le_total k cs.length with h | h
 ·exact Nat.le_trans (toksF_len hl cs k h) (pow24 (by omega))
 ·rw [List.take_of_length_le h]
  have := toksF_len hl cs cs.length (Nat.le_refl _)
  rw [List.take_length] at this
  exact Nat.le_trans this (pow24 hc)
theorem stepF_le {l : List Fct} (hl : l.length ≤ 24) {x : VCond} (ts : List VToken) (i : Nat) : (stepF l (ts.take i) x).length ≤ 24 * ts.length := by
 have h1 := stepF_len hl x (ts.take i)
 have h2 : (ts.take i).length ≤ ts.length := by rw [List.length_take]; omega
 omega
theorem atomF_le {s : Str} (h : atomF s = true) : s.length ≤ 8 := by
 simp only [atomF, Bool.and_eq_true, decide_eq_true_eq] at h; omega
theorem strs_le {l : List Str} (h : l.all atomF = true) : listSize Ty.str l ≤ 8 * l.length := by
 induction l with
 | nil => exact Nat.le_refl _
 | cons s l ih =>
  rw [List.all_cons, Bool.and_eq_true] at h
  have h1 := atomF_le h.1
  have h2 := ih h.2
  rw [List.length_cons]
  show s.length + listSize Ty.str l ≤ _
  omega
theorem fact_le {f : Fct} (h : isFactF f = true) : tFct.size f ≤ 35 := by
 unfold isFactF nameF at h
 simp only [Bool.and_eq_true, decide_eq_true_eq] at h
 have h1 := atomF_le h.1.1.1
 have h2 := strs_le h.2
 rw [tFct_size, tStrs_size]
 omega
theorem areF_fact {l : List Fct} (h : areF l = true) : ∀ f ∈ l, isFactF f = true := fun f hf => by
 obtain ⟨i, hi⟩ := List.getElem?_of_mem hf
 have hl := getElem?_lt hi
 have hg : l.getD i default = f := by rw [List.getD_eq_getElem?_getD, hi]; rfl
 cases hb : badAt l i with
 | true => rw [areF_no hl hb] at h; cases h
 | false => unfold badAt at hb; rw [Bool.or_eq_false_iff, hg] at hb; simpa using hb.1
theorem areF_len {l : List Fct} (h : areF l = true) : l.length ≤ 24 := by
 rcases Nat.lt_or_ge 24 l.length with h1 | h1
 ·rw [areF_long (by omega)] at h; cases h
 ·exact h1
theorem goodT_size {l : List Fct} {n : Nat} {t : VToken} (hl : ∀ f ∈ l, isFactF f = true) (h : GoodT l n t) (hn : n ≤ 5) : tFcts.size t.1 ≤ 180 ∧ tPairs.size t.2 ≤ 108 := by
 have h1 : ∀ m : List Fct, (∀ f ∈ m, isFactF f = true) → listSize tFct m ≤ 35 * m.length := by
  intro m
  induction m with
  | nil => exact fun _ => Nat.le_refl _
  | cons f m ih =>
   intro hm
   have h2 := fact_le (hm f List.mem_cons_self)
   have h3 := ih fun g hg => hm g (List.mem_cons_of_mem _ hg)
   rw [List.length_cons]
   show tFct.size f + listSize tFct m ≤ _
   omega
 have h2 := h1 t.1 fun f hf => hl f (h.mem f hf)
 have h3 := h.le
 obtain ⟨b1, b2, _⟩ := (bindF_iff _).1 h.bind
 have h4 := pairs_size b2
 rw [tFcts_size, tPairs_sz]
 omega
open Abs
theorem sCopies.ret (l : List Fct) (h : tFcts.size l ≤ 1048576) : sCopies.Ret [.list none (facts l)] (.list (some 0) (tks tFct l 1)) (accFr l) := by
 refine sCopies.ir.of rfl ?_
 rw [tFcts_size] at h
 repeat' first
  | (conv => whnf
     first | refine Need.mk rfl ?_)
 refine ALoop.mk Nat (fun i => ⟨[(0, .list none (facts l)), (3, .list (some 0) (tks tFct (l.take i) 1)), (4, .val (.int .i64 i))], [], accFr (l.take i)⟩) (fun i => i ≤ l.length) (fun i => l.length - i) ⟨0, Nat.zero_le _, ?_⟩ (fun i hi => ?_)
 ·repeat' first
   | exact trivial | refine wl_ ?_ ?_ ?_ ?_ | refine And.intro ?_ ?_ | with_reducible rfl | exact ble_ | refine fr1 ?_ | refine AV.int_congr ?_ | refine AV.list_congr ?_ | (apply rfl)
 have hlen : (l.take i).length ≤ l.length := by rw [List.length_take]; omega
 repeat' first
  | (conv => whnf
     first | refine Need.mk rfl ?_ | refine nb_ ?_ | refine Need.mk ?_ ?_ | refine Ix.mapF (fun _ => rfl) ?_ | refine Fork.dec (fun _ => ?_) (fun _ => ?_) | refine Round.mk ?_ | refine Lit.read rfl ?_ | refine Final.mk ?_ ?_ | refine ACall.mkFct _ _ (sCopy.ret _ ?_) (by repeat' first | exact SeesL.nil | refine SeesL.cons ?_ ?_ | exact SeesB.of0 (Sees0.val _) | exact SeesB.of0 (Sees0.str _) | exact SeesB.of0 (Sees0.olds _ _) | exact SeesB.of0 (Sees0.old _) | exact SeesB.of0 (Sees0.oldagg _) | exact SeesB.of0 Sees0.nil | exact Sees0.val _ | exact Sees0.str _ | exact Sees0.olds _ _ | exact Sees0.old _ | exact Sees0.oldagg _ | exact Sees0.nil | exact SeesB.of0 (Sees0.any _) | assumption | exact sees_gv _ _ _ (by assumption) (by first | assumption | exact BoxIn.last _ _ | exact BoxIn.more (BoxIn.last _ _) _) | refine SeesB.agg ?_ | refine Sees0.agg ?_ | exact SeesB.of0 (Sees0.clo SeesL.nil SeesL.nil) | exact Sees0.clo SeesL.nil SeesL.nil | exact SeesB.of0 (Sees0.list rfl) | exact Sees0.list rfl) ?_)
  | refine AV.list_congr ?_
 all_goals try simp only [length_rows, length_strs, length_oldLL, List.length_map, Int.toNat_natCast] at *
 ·have := fct_le (l := l) (i := i) (by omega); omega
 ·rw [length_tks]
 ·intro c hc; rw [List.mem_singleton.1 hc]; exact tFct.htk _ _
 ·rw [length_tks]; simp; omega
 ·refine ⟨i + 1, by omega, ?_, by omega⟩
  repeat' first
   | exact trivial | refine wl_ ?_ ?_ ?_ ?_ | refine And.intro ?_ ?_ | with_reducible rfl | exact ble_ | refine AV.int_congr ?_ | refine AV.list_congr ?_ | (apply rfl)
  ·rw [acc_snoc, take_succ' default (by omega)]
  ·rw [wrap64 (by omega) (by omega)]; rfl
  ·show (accFr (l.take i) ++ tFct.fr (l.getD i default)).set 0 (_, _, (tks tFct (l.take i) 1).length + 1) = accFr (l.take (i + 1))
   rw [length_tks, take_succ' default (by omega)]; exact accFr_snoc _ _
 ·rw [List.take_of_length_le (by omega)]
 ·rw [List.take_of_length_le (by omega)]
theorem sCopies.own (l : List Fct) (h : tFcts.size l ≤ 1048576) : sCopies.Own [.list none (facts l)] (fctsT l) := acc_own (sCopies.ret l h)
end Go.Proofs.YtoindmahilbalaaGreat
namespace Go.Proofs
open Go.RowKit Go.Shelf
def Tryz.growS_ren : Go.Shelf.Ren := ⟨fun | 4 => 202 | n => n, fun | 22 => 77 | 25 => 9 | 3 => 3 | 4 => 4 | 9 => 9 | 20 => 20 | 0 => 0 | n => n, fun | n => n⟩
theorem Tryz.growS : Go.Proofs.Lays8.n4 Tryz.prog Tryz.growS_ren := {
 mixed := by kernel_rfl
 f4 := ⟨Tryz.f202.name, by decide, Tryz.func202.trans (congrArg some (by kernel_rfl))⟩
 t0 := Tryz.underlying0
 a0 := Tryz.isAgg0
 z0 := Tryz.sizeOf0
 v0 := Tryz.zeroValue0
 t3 := Tryz.underlying3
 a3 := Tryz.isAgg3
 z3 := Tryz.sizeOf3
 v3 := Tryz.zeroValue3
 t4 := Tryz.underlying4
 a4 := Tryz.isAgg4
 z4 := Tryz.sizeOf4
 v4 := Tryz.zeroValue4
 t9 := Tryz.underlying9
 a9 := Tryz.isAgg9
 z9 := Tryz.sizeOf9
 v9 := Tryz.zeroValue9
 t20 := Tryz.underlying20
 a20 := Tryz.isAgg20
 z20 := Tryz.sizeOf20
 v20 := Tryz.zeroValue20
 t22 := Tryz.underlying77
 a22 := Tryz.isAgg77
 z22 := Tryz.sizeOf77
 v22 := Tryz.zeroValue77 }
def Tryz.growC_ren : Go.Shelf.Ren := ⟨fun | 4 => 199 | n => n, fun | 22 => 31 | 25 => 116 | 3 => 3 | 4 => 4 | 9 => 9 | 20 => 20 | 0 => 0 | n => n, fun | n => n⟩
theorem Tryz.growC : Go.Proofs.Lays8.n4 Tryz.prog Tryz.growC_ren := {
 mixed := by kernel_rfl
 f4 := ⟨Tryz.f199.name, by decide, Tryz.func199.trans (congrArg some (by kernel_rfl))⟩
 t0 := Tryz.underlying0
 a0 := Tryz.isAgg0
 z0 := Tryz.sizeOf0
 v0 := Tryz.zeroValue0
 t3 := Tryz.underlying3
 a3 := Tryz.isAgg3
 z3 := Tryz.sizeOf3
 v3 := Tryz.zeroValue3
 t4 := Tryz.underlying4
 a4 := Tryz.isAgg4
 z4 := Tryz.sizeOf4
 v4 := Tryz.zeroValue4
 t9 := Tryz.underlying9
 a9 := Tryz.isAgg9
 z9 := Tryz.sizeOf9
 v9 := Tryz.zeroValue9
 t20 := Tryz.underlying20
 a20 := Tryz.isAgg20
 z20 := Tryz.sizeOf20
 v20 := Tryz.zeroValue20
 t22 := Tryz.underlying31
 a22 := Tryz.isAgg31
 z22 := Tryz.sizeOf31
 v22 := Tryz.zeroValue31 }
end Go.Proofs
namespace Go.Proofs.YtoindmahilbalaaGreat
open Abs Go.RowKit Go.Shelf
theorem slGrow.ret (n : Nat) (hn : n ≤ 4194304) : slGrow.Ret [.val (.slice none 0 0), .val (.int .i64 n)] (.list (some 0) []) [(9, 1, 0)] := by
 rw [slGrow.Ret, Ret_eq]
 refine ⟨by kernel_rfl, fun w F vs hout hargs => ?_⟩
 obtain ⟨v0, v1, rfl⟩ : ∃ v0 v1, vs = #[v0, v1] := by
  have := hargs.1
  match vs, this with
  | ⟨[a, b]⟩, _ => exact ⟨a, b, rfl⟩
 obtain ⟨h0, h1⟩ := Both.cons.1 hargs
 obtain ⟨h1, _⟩ := Both.cons.1 h1
 cases h0
 cases h1
 rcases Nat.eq_zero_or_pos n with rfl | hpos
 ·refine (Any8.slices_Grow_room Tryz.growS none 0 0 0 w (by omega) (by omega) (by omega) (by omega)).mono ?_
  rintro e w' ⟨rfl, rfl⟩
  refine ⟨_, F, [none], [], rfl, Bel.refl _ _, fun _ _ => rfl, hout, rfl, fun k b h => ?_, fun k l b h => ?_, .list _ [] none 0 1 0 0 (fun _ _ => undef) (Nat.le_refl _) (fun h => absurd rfl h) (by simp) (fun h => absurd rfl h) (by simp) (by simp) (fun k hk => ?_)⟩
  ·cases k <;> simp at h
  ·cases k <;> simp at h
  ·cases hk
   exact ⟨_, 1, 0, rfl, Nat.le_refl _, fun _ => ⟨rfl, ⟨[], World.ownsRow_nil _ _ _ _⟩, rfl, fun b h => by cases h⟩⟩
 ·obtain ⟨el, ti, z, hu, hi, hz, hzs, hps, _, hel, hcz⟩ := goodElem_inv (P := Tryz.prog) (t := 77) (by kernel_rfl)
  have he : el = 9 := hel.symm.trans (by kernel_rfl)
  subst he
  have hsz : ti.size = 1 := hcz.symm.trans (by kernel_rfl)
  have hby : ti.bytes = 16 := by
   have h : bytesOf Tryz.prog 9 = ti.bytes := by unfold bytesOf; rw [hi]
   exact h.symm.trans (by kernel_rfl)
  have hzz : z.cells.size = 1 := hzs.trans hsz
  refine (Any8.slices_Grow_grow Tryz.growS ti z hi hz (by omega) none 0 0 n [] w (by omega) (by omega) (by rw [hby]; omega) (by omega) (by simp) (fun _ => rfl) (fun a h => by cases h)).mono ?_
  rintro e w' ⟨rfl, rfl⟩
  have hge := grownCap_ge w (0 + n) 0 9
  have hle := grownCap_le_maxLen w (0 + n) 0 9 (by unfold maxLen; omega)
  have hG : grownCap w (0 + n) 0 (Tryz.growS_ren.t 25) = grownCap w (0 + n) 0 9 := rfl
  rw [hG]
  generalize grownCap w (0 + n) 0 9 = G at hge hle
  refine ⟨_, F, [some w.heap.size], [], rfl, ((Bel.refl _ w).drew).alloc (Nat.le_refl _) _, fun _ _ => rfl, fun b hb => hout b ?_, rfl, fun k b h => ?_, fun k l b h1 h2 => ?_, .list _ [] (some ⟨w.heap.size, 0, none⟩) G 1 w.heap.size 0 (fun _ _ => undef) (Nat.zero_le _) (fun h => absurd rfl h) (by simp) (fun h => absurd rfl h) (by simp) (by simp) (fun k hk => ?_)⟩
  ·have : w.heap.size + 1 ≤ b := by simpa using hb
   omega
  ·cases k with
   | zero => simp at h; subst h; exact ⟨Nat.le_refl _, by simp⟩
   | succ k => simp at h
  ·cases k <;> cases l <;> simp at h1 h2
   rfl
  ·cases hk
   refine ⟨_, 1, 0, rfl, Nat.le_refl _, fun _ => ⟨rfl, ⟨[], rfl, Or.inr ⟨w.heap.size, G, _, rfl, Nat.le_refl _, heap_alloc_new w.drew _, Nat.zero_le _, hle, ?_, by simp⟩⟩, rfl, fun b h => ?_⟩⟩
   ·simp [Builtin.zeroCells, hzz]; omega
   ·cases h; rw [hout _ (Nat.le_refl _)]; rfl
def sumN (a b : List Str) (i : Nat) : Nat := if i = 0 then 0 else if i = 1 then a.length else a.length + b.length
def catN (a b : List Str) (i : Nat) : List Str := if i = 0 then [] else if i = 1 then a else a ++ b
theorem slConcat2.ret (a b : List Str) (ha : a.length ≤ 1048576) (hb : b.length ≤ 1048576) : slConcat.Ret [.list none [[.list none (strs a)], [.list none (strs b)]]] (.list (some 0) (strs (a ++ b))) [(9, 1, (a ++ b).length)] := by
 refine slConcat.ir.of rfl ?_
 have e1 : IntKind.i64.wrap ((0 : Int) + (strs a).length) = a.length := by rw [length_strs, wrap64 (by omega) (by omega)]; omega
 have e2 : IntKind.i64.wrap ((a.length : Int) + (strs b).length) = ((a.length + b.length : Nat) : Int) := by rw [length_strs, wrap64 (by omega) (by omega)]; omega
 skip
 refine ALoop.mk Nat (fun i => ⟨[(0, .list none [[.list none (strs a)], [.list none (strs b)]]), (3, .val (.int .i64 (sumN a b i))), (9, .list none [[.list none (strs a)], [.list none (strs b)]]), (10, .val (.int .i64 2)), (11, .val (.int .i64 i))], [], []⟩) (fun i => i ≤ 2) (fun i => 2 - i) ⟨0, by omega, ?_⟩ (fun i hi => ?_)
 ·repeat' first
   | exact trivial | refine wl_ ?_ ?_ ?_ ?_ | refine And.intro ?_ ?_ | with_reducible rfl | exact ble_ | refine AV.int_congr ?_ | refine AV.list_congr ?_ | (apply rfl)
 have hc : i = 0 ∨ i = 1 ∨ i = 2 := by omega
 rcases hc with rfl | rfl | rfl
 ·have hix : (0 : Int) ≤ (0 : Nat) ∧ [[AV.list none (strs a)], [AV.list none (strs b)]][((0 : Nat) : Int).toNat]? = some [AV.list none (strs a)] ∧ 1 = 1 := ⟨by omega, rfl, rfl⟩
  repeat' first
   | (conv => whnf
      first | refine Need.mk rfl ?_ | refine Ix.mk _ (fun _ => hix) ?_ | refine Fork.decYes (by omega) ?_ | refine Fork.dec (fun _ => ?_) (fun _ => ?_) | refine Round.mk ?_)
  ·rename_i h
   have h : IntKind.i64.wrap ((0 : Int) + (strs a).length) < 0 := h
   rw [e1] at h; omega
  ·refine ⟨1, by omega, ?_, by omega⟩
   repeat' first
    | exact trivial | refine wl_ ?_ ?_ ?_ ?_ | refine And.intro ?_ ?_ | with_reducible rfl | exact ble_ | refine AV.int_congr ?_ | refine AV.list_congr ?_ | (apply rfl)
   exact e1
 ·have hix : (0 : Int) ≤ (1 : Nat) ∧ [[AV.list none (strs a)], [AV.list none (strs b)]][((1 : Nat) : Int).toNat]? = some [AV.list none (strs b)] ∧ 1 = 1 := ⟨by omega, rfl, rfl⟩
  repeat' first
   | (conv => whnf
      first | refine Need.mk rfl ?_ | refine Ix.mk _ (fun _ => hix) ?_ | refine Fork.decYes (by omega) ?_ | refine Fork.dec (fun _ => ?_) (fun _ => ?_) | refine Round.mk ?_)
  ·rename_i h
   have h : IntKind.i64.wrap ((a.length : Int) + (strs b).length) < 0 := h
   rw [e2] at h; omega
  ·refine ⟨2, by omega, ?_, by omega⟩
   repeat' first
    | exact trivial | refine wl_ ?_ ?_ ?_ ?_ | refine And.intro ?_ ?_ | with_reducible rfl | exact ble_ | refine AV.int_congr ?_ | refine AV.list_congr ?_ | (apply rfl)
   exact e2
 have hg : slGrow.Ret [.val (.slice none 0 0), .val (.int .i64 (sumN a b 2))] (.list (some 0) []) [(9, 1, 0)] := slGrow.ret (a.length + b.length) (by omega)
 repeat' first
  | (conv => whnf
     first | refine Need.mk rfl ?_ | refine Fork.decNo (by omega) ?_ | refine ACall.mkR _ _ _ (hg) ?_)
 refine ALoop.mk Nat (fun i => ⟨[(0, .list none [[.list none (strs a)], [.list none (strs b)]]), (6, .list (some 0) (strs (catN a b i))), (25, .list none [[.list none (strs a)], [.list none (strs b)]]), (26, .val (.int .i64 2)), (27, .val (.int .i64 i))], [], [(9, 1, (catN a b i).length)]⟩) (fun i => i ≤ 2) (fun i => 2 - i) ⟨0, by omega, ?_⟩ (fun i hi => ?_)
 ·repeat' first
   | exact trivial | refine wl_ ?_ ?_ ?_ ?_ | refine And.intro ?_ ?_ | with_reducible rfl | exact ble_ | refine fr1 ?_ | refine AV.int_congr ?_ | refine AV.list_congr ?_ | (apply rfl)
 have hc : i = 0 ∨ i = 1 ∨ i = 2 := by omega
 rcases hc with rfl | rfl | rfl
 ·have hix : (0 : Int) ≤ (0 : Nat) ∧ [[AV.list none (strs a)], [AV.list none (strs b)]][((0 : Nat) : Int).toNat]? = some [AV.list none (strs a)] ∧ 1 = 1 := ⟨by omega, rfl, rfl⟩
  repeat' first
   | (conv => whnf
      first | refine Need.mk rfl ?_ | refine Need.mk ?_ ?_ | refine Ix.mk _ (fun _ => hix) ?_ | refine Fork.decYes (by omega) ?_ | refine Round.mk ?_)
  ·exact strs_sz a
  ·rw [length_strs, length_strs]; simp [catN]; omega
  ·refine ⟨1, by omega, ?_, by omega⟩
   repeat' first
    | exact trivial | refine wl_ ?_ ?_ ?_ ?_ | refine And.intro ?_ ?_ | with_reducible rfl | exact ble_ | refine fr1 ?_ | refine AV.int_congr ?_ | refine AV.list_congr ?_ | (apply rfl)
   show (strs []).length + (strs a).length = a.length
   simp
 ·have hix : (0 : Int) ≤ (1 : Nat) ∧ [[AV.list none (strs a)], [AV.list none (strs b)]][((1 : Nat) : Int).toNat]? = some [AV.list none (strs b)] ∧ 1 = 1 := ⟨by omega, rfl, rfl⟩
  repeat' first
   | (conv => whnf
      first | refine Need.mk rfl ?_ | refine Need.mk ?_ ?_ | refine Ix.mk _ (fun _ => hix) ?_ | refine Fork.decYes (by omega) ?_ | refine Round.mk ?_)
  ·simp
  ·exact strs_sz b
  ·rw [length_strs, length_strs]; simp [catN]; omega
  ·refine ⟨2, by omega, ?_, by omega⟩
   repeat' first
    | exact trivial | refine wl_ ?_ ?_ ?_ ?_ | refine And.intro ?_ ?_ | with_reducible rfl | exact ble_ | refine fr1 ?_ | refine AV.int_congr ?_ | refine AV.list_congr ?_ | (apply rfl)
   ·exact (strs_append a b).symm
   ·show (strs a).length + (strs b).length = (a ++ b).length
    simp
 ·repeat' first
   | (conv => whnf
      first | refine Need.mk rfl ?_ | refine Fork.decNo (by omega) ?_ | refine Final.mk rfl rfl)
theorem vs_app (l m : List Str) : vs (l ++ m) = vs l ++ vs m := by simp [vs]
def cvF (x : VCond) : List Str := x.2.1.2 ++ [x.2.2.1, x.2.2.2]
theorem pCondVars.ret (x : VCond) (h : tCond.size x ≤ 1048576) : pCondVars.Ret [.agg (oldL (tCond.q x))] (.list (some 4) (strs (insAll blt (vs (cvF x))))) [(9, 1, 2), (77, 1, 2), (9, 1, (cvF x).length), (9, 1, (vs (cvF x)).length), (9, 1, (insAll blt (vs (cvF x))).length)] := by
 refine pCondVars.ir.of rfl ?_
 have hz : tCond.size x = x.2.1.1.length + (x.2.1.2.length + listSize Ty.str x.2.1.2) + (x.2.2.1.length + x.2.2.2.length) := tCond_sz x
 have hc : slConcat.Ret [.list none [[.list none (strs x.2.1.2)], [.list none [[.str x.2.2.1], [.str x.2.2.2]]]]] (.list (some 0) (strs (cvF x))) [(9, 1, (cvF x).length)] := slConcat2.ret x.2.1.2 [x.2.2.1, x.2.2.2] (by omega) (by simp)
 have hv := pvarsAmong.ret (cvF x) (by simp [cvF]; omega) (by
  have : listSize Ty.str (cvF x) = listSize Ty.str x.2.1.2 + (x.2.2.1.length + (x.2.2.2.length + 0)) := by
   unfold cvF
   induction x.2.1.2 with
   | nil => simp [listSize, Ty.str]
   | cons y l ih =>
    have e1 : listSize Ty.str ((y :: l) ++ [x.2.2.1, x.2.2.2]) = y.length + listSize Ty.str (l ++ [x.2.2.1, x.2.2.2]) := rfl
    have e2 : listSize Ty.str (y :: l) = y.length + listSize Ty.str l := rfl
    rw [e1, e2, ih]; omega
  omega)
 repeat' first
  | (conv => whnf
     first | refine Need.mk rfl ?_)
 conv => whnf
 refine ACall.mkStrs _ _ hc (.cons (Sees0.list ?_) .nil) ?_
 ·show [[AV.list none (mapTLL noTok (oldLL (x.2.1.2.map Ty.str.q)))], [AV.list none [[.str x.2.2.1], [.str x.2.2.2]]]] = _
  rw [mapTLL_old]; rfl
 repeat' first
  | (conv => whnf
     first | refine Final.mk rfl rfl | refine ACall.mkLA _ _ _ _ (hv) ?_)
theorem own_rowF {F : Fr} {l l' : List Str} {k : Nat} (hk : F[k]? = some (9, 1, l.length)) (e : l = l') : ∃ ts, OwnA F [strT l'] [.list (some k) (strs l)] ts ∧ ts.Nodup := by
 subst e
 exact ⟨[k], .l _ _ _ k (strs l) (by simpa using hk) (by simp) (fun e he => by obtain ⟨s, _, rfl⟩ := List.mem_map.1 he; rfl) (strs_sz _) (own_strs F l) .nil, by simp⟩
theorem var_pos {s : Str} (h : varF s = true) : 1 ≤ s.length := by
 unfold varF at h
 simp only [Bool.and_eq_true, decide_eq_true_eq] at h
 omega
theorem cv_eq (x : VCond) : vs (cvF x) = vs x.2.1.2 ++ (if varF x.2.2.1 then [x.2.2.1] else []) ++ (if varF x.2.2.2 then [x.2.2.2] else []) := by
 rw [cvF, vs_app, List.append_assoc]
 congr 1
 unfold vs
 rw [List.filter_cons, List.filter_cons]
 split <;> split <;> rfl
theorem pCondVars.own (x : VCond) (h : tCond.size x ≤ 1048576) : pCondVars.Own [.agg (oldL (tCond.q x))] (strT (insAll blt (vs (cvF x)))) := own_row rfl (pCondVars.ret x h)
theorem sCondVars.own (x : VCond) (h : tCond.size x ≤ 1048576) : sCondVars.Own [.agg (oldL (tCond.q x))] (strT (insAll blt (vs (cvF x)))) := by
 refine Abs.IrAt.ownP sCondVars.ir rfl ?_
 have hp := tCond_pat x
 have hz : tCond.size x = x.2.1.1.length + (x.2.1.2.length + listSize Ty.str x.2.1.2) + (x.2.2.1.length + x.2.2.2.length) := tCond_sz x
 have hil := insAll_le (vs x.2.1.2)
 have hvl : (vs x.2.1.2).length ≤ x.2.1.2.length := List.length_filter_le varF x.2.1.2
 have hin := insAll_le (vs x.2.1.2 ++ [x.2.2.1])
 rw [ins_snoc, List.length_append, List.length_singleton] at hin
 have hce := cv_eq x
 have hfl := frS_len (vs x.2.1.2) (vs x.2.1.2).length
 have hfg : (frS (vs x.2.1.2) (vs x.2.1.2).length)[(vs x.2.1.2).length]? = some (9, 1, (insAll blt (vs x.2.1.2)).length) := by simp [frS, accS]
 have hvo := sVarsOf.ret x.2.1 (by omega)
 generalize frS (vs x.2.1.2) (vs x.2.1.2).length = fs at hfl hfg hvo
 repeat' first
  | (conv => whnf
     first | refine nb_ ?_ | refine Fork.mk (fun _ => ?_) (fun _ => ?_) | refine ACall.scalA _ _ (sIsVar.ret _ ?_) rfl ?_ | refine ACall.mkLA _ _ _ _ (hvo) ?_ | refine ACall.mkStrs _ _ (sPut.ret _ _ ?_) (by repeat' first | exact SeesL.nil | refine SeesL.cons ?_ ?_ | exact SeesB.of0 (Sees0.val _) | exact SeesB.of0 (Sees0.str _) | exact SeesB.of0 (Sees0.olds _ _) | exact SeesB.of0 (Sees0.old _) | exact SeesB.of0 (Sees0.oldagg _) | exact SeesB.of0 Sees0.nil | exact Sees0.val _ | exact Sees0.str _ | exact Sees0.olds _ _ | exact Sees0.old _ | exact Sees0.oldagg _ | exact Sees0.nil | exact SeesB.of0 (Sees0.any _) | assumption | exact sees_gv _ _ _ (by assumption) (by first | assumption | exact BoxIn.last _ _ | exact BoxIn.more (BoxIn.last _ _) _) | refine SeesB.agg ?_ | refine Sees0.agg ?_ | exact SeesB.of0 (Sees0.clo SeesL.nil SeesL.nil) | exact Sees0.clo SeesL.nil SeesL.nil | exact SeesB.of0 (Sees0.list rfl) | exact Sees0.list rfl) ?_)
 ·omega
 ·omega
 ·omega
 ·have := var_pos ‹varF x.2.2.1 = true›; omega
 ·rename_i h1 h2
  rw [if_pos h1, if_pos h2] at hce
  conv => whnf
  refine own_rowF (by simp [hfl]) ?_
  rw [hce, ins_snoc, ins_snoc]
 ·rename_i h1 h2
  rw [if_pos h1, if_neg (by simp [h2]), List.append_nil] at hce
  conv => whnf
  refine own_rowF (by simp [hfl]) ?_
  rw [hce, ins_snoc]
 ·omega
 ·omega
 ·rename_i h1 h2
  rw [if_neg (by simp [h1]), if_pos h2, List.append_nil] at hce
  conv => whnf
  refine own_rowF (by simp [hfl]) ?_
  rw [hce, ins_snoc]
 ·rename_i h1 h2
  rw [if_neg (by simp [h1]), if_neg (by simp [h2]), List.append_nil, List.append_nil] at hce
  conv => whnf
  refine own_rowF (l := insAll blt (vs x.2.1.2)) (by simpa using hfg) (by rw [hce])
open Abs
theorem SeesB.strs {bx : List ABox} {j t : Nat} {l : List Str} (hj : bx[j]? = some (.cells (.row t 1) (strs l).flatten)) : SeesB bx (.bsl j l.length) (.list none (Abs.strs l)) := by
 refine SeesB.bsl hj (by simp) (strs_sz l) ?_
 rw [strs_eq]
 clear hj
 induction l with
 | nil => exact .nil
 | cons s l ih => exact .cons (SeesB.of0 (Sees0.str s)) ih
theorem inBL_of {m : Nat} : ∀ {cs : List AV}, (∀ c ∈ cs, inB m c) → inB.inBL m cs
 | [], _ => trivial
 | c :: cs, h => ⟨h c (by simp), inBL_of fun d hd => h d (by simp [hd])⟩
open Abs
theorem Abs.Need.finN {p q : Prop} (k : q) (h : p := by intros; (try simp only [length_strs] at *); (try simp only [length_rows] at *); (try simp only [length_oldLL, List.length_map, Int.toNat_natCast] at *); (try simp only [Bool.and_eq_true, decide_eq_true_eq] at *); omega) : Need p q := ⟨h, k⟩
theorem Abs.Ix.strsN {gd : Bool} {l : List Str} {i : Int} {sz : Nat} {k : List AV → Prop} (hs : 1 = sz) (hk : k [.str (l.getD i.toNat [])]) (h : gd = true → 0 ≤ i ∧ i < l.length := by intros; (try simp only [length_strs] at *); (try simp only [length_rows] at *); (try simp only [length_oldLL, List.length_map, Int.toNat_natCast] at *); (try simp only [Bool.and_eq_true, decide_eq_true_eq] at *); omega) : Ix gd (Abs.strs l) i sz k := Ix.strs hs h hk
theorem Abs.Ix.mapN {α : Type} [Inhabited α] {gd : Bool} {l : List α} {q : α → List Tr} {i : Int} {sz : Nat} {k : List AV → Prop} (hs : ∀ a, (q a).length = sz) (hk : k (oldL (q (l.getD i.toNat default)))) (h : gd = true → 0 ≤ i ∧ i < l.length := by intros; (try simp only [length_strs] at *); (try simp only [length_rows] at *); (try simp only [length_oldLL, List.length_map, Int.toNat_natCast] at *); (try simp only [Bool.and_eq_true, decide_eq_true_eq] at *); omega) : Ix gd (oldLL (l.map q)) i sz k := Ix.map hs h hk
theorem Abs.Fork.decY {c : Prop} [Decidable c] {p q : Prop} (k : p) (h : c := by (try simp only [length_oldLL, length_rows, length_strs, length_tks, List.length_map, Int.toNat_natCast]); omega) : Fork (decide c) p q := .decYes h k
theorem Abs.Fork.decN {c : Prop} [Decidable c] {p q : Prop} (k : q) (h : ¬ c := by (try simp only [length_oldLL, length_rows, length_strs, length_tks, List.length_map, Int.toNat_natCast]); omega) : Fork (decide c) p q := .decNo h k
theorem Abs.Fork.andY {a b : Prop} [Decidable a] [Decidable b] {p q : Prop} (k : p) (h : a ∧ b := by (try simp only [length_oldLL, length_rows, length_strs, length_tks, List.length_map, Int.toNat_natCast]); omega) : Fork (decide a && decide b) p q := .yes (by simp [h.1, h.2]) k
theorem Abs.Fork.andN {a b : Prop} [Decidable a] [Decidable b] {p q : Prop} (k : q) (h : ¬ (a ∧ b) := by (try simp only [length_oldLL, length_rows, length_strs, length_tks, List.length_map, Int.toNat_natCast]); omega) : Fork (decide a && decide b) p q := .no (by rw [← Bool.decide_and]; exact decide_eq_false h) k
theorem ok_strT (l : List Str) : okT (strT l) = true := ok_list Ty.str _ l
theorem Abs.SeesB.bptr1 {bx : List ABox} {j : Nat} {x y : AV} (hj : bx[j]? = some (.cells .var [x])) (h : SeesB bx x y) (hn : noRef y = true) : SeesB bx (.bptr j 0) (.rptr [y]) :=
 SeesB.bptr (off := 0) (ys := [y]) hj (SeesL.cons h SeesL.nil) (fun z hz => by rw [List.mem_singleton.1 hz]; exact hn)
theorem Abs.Sees0.takeold {n : Nat} {xs : List Tr} (h : xs.length = n) : Sees0 (.agg (List.take n (oldL xs))) (.agg (oldL xs)) := by
 rw [List.take_of_length_le (by rw [oldL_eq, List.length_map, h]; exact Nat.le_refl _)]
 exact Sees0.oldagg xs
theorem Abs.Sees0.rptrL (xs : List (List Tr)) : Sees0 (.rptr [.list none (oldLL xs)]) (.rptr [.list none (oldLL xs)]) := Sees0.erase (by
 show AV.rptr [AV.list none (mapTLL noTok (oldLL xs))] = _
 rw [mapTLL_old])
theorem Abs.ACall.scalC {C : Con} {lend : Bool} {f : Nat} {vs : List AV} {b : List ABox} {fr : Fr} {k : AV → List ABox → Fr → Prop} (ys : List AV) (r : AV) (h : C.ret f ys r []) (hr : isScalR r = true) (hk : k r b fr)
 (hv : SeesL (SeesB b) vs ys := by repeat' first | exact SeesL.nil | refine SeesL.cons ?_ ?_ | exact SeesB.of0 (Sees0.val _) | exact SeesB.of0 (Sees0.str _) | exact SeesB.of0 (Sees0.olds _ _) | exact SeesB.of0 (Sees0.old _) | exact SeesB.of0 (Sees0.oldagg _) | exact SeesB.of0 Sees0.nil | exact SeesB.of0 (Sees0.clo SeesL.nil SeesL.nil) | refine SeesB.of0 (Sees0.takeold (n := _) ?_) | exact SeesB.of0 (Sees0.rptrL _) | exact SeesB.of0 (Sees0.erase rfl) | exact SeesB.of0 (Sees0.list rfl) | refine SeesB.clo ?_ ?_ | refine SeesB.bptr1 rfl ?_ rfl | refine SeesB.agg ?_ | rfl) : ACall C lend f vs b fr k := .scal ys r h hr hv hk
theorem Abs.AGCall.scalC {C : Con} {f : Nat} {vs : List AV} {gd : Bool} {b : List ABox} {k : AV → Prop} (ys : List AV) (r : AV) (h : gd = true → C.ret f ys r []) (hr : isScalR r = true) (hk : k r)
 (hv : SeesL (SeesB b) vs ys := by repeat' first | exact SeesL.nil | refine SeesL.cons ?_ ?_ | exact SeesB.of0 (Sees0.val _) | exact SeesB.of0 (Sees0.str _) | exact SeesB.of0 (Sees0.olds _ _) | exact SeesB.of0 (Sees0.old _) | exact SeesB.of0 (Sees0.oldagg _) | exact SeesB.of0 Sees0.nil | exact SeesB.of0 (Sees0.clo SeesL.nil SeesL.nil) | refine SeesB.of0 (Sees0.takeold (n := _) ?_) | exact SeesB.of0 (Sees0.rptrL _) | exact SeesB.of0 (Sees0.erase rfl) | exact SeesB.of0 (Sees0.list rfl) | refine SeesB.clo ?_ ?_ | refine SeesB.bptr1 rfl ?_ rfl | refine SeesB.agg ?_ | rfl) : AGCall C f vs gd b k := .scal (.mk ys r h hr (fun _ => hv) hk)
theorem mem_insB {l : List Str} {x : Str} : x ∈ insAll blt l ↔ x ∈ l := insAll_mem blt_sto l x
theorem insB_congr {l m : List Str} (h : ∀ x, x ∈ l ↔ x ∈ m) : insAll blt l = insAll blt m :=
 Asc.unique blt_sto (insAll_asc blt_sto l) (insAll_asc blt_sto m) fun x => by rw [mem_insB, mem_insB]; exact h x
theorem insB_left (l m : List Str) : insAll blt (insAll blt l ++ m) = insAll blt (l ++ m) := insB_congr fun x => by simp [mem_insB]
section
variable {α : Type}
def fm (f : α → List Str) (l : List α) : List Str := l.flatMap f
theorem fm_take (d : α) (f : α → List Str) {l : List α} {i : Nat} (h : i < l.length) : fm f (l.take (i + 1)) = fm f (l.take i) ++ f (l.getD i d) := by
 rw [take_succ' d h]; simp [fm]
theorem fm_mem {f : α → List Str} {l : List α} {x : Str} : x ∈ fm f l ↔ ∃ a ∈ l, x ∈ f a := by simp [fm]
theorem fm_len (T : Ty α) (f : α → List Str) (h : ∀ a, (f a).length ≤ T.size a) : ∀ l : List α, (fm f l).length ≤ listSize T l
 | [] => Nat.le_refl _
 | a :: l => by
  have ih := fm_len T f h l
  have e : listSize T (a :: l) = T.size a + listSize T l := rfl
  have e2 : fm f (a :: l) = f a ++ fm f l := rfl
  have := h a
  rw [e, e2, List.length_append]; omega
theorem fm_lenT (T : Ty α) (f : α → List Str) (h : ∀ a, (f a).length ≤ T.size a) (l : List α) (i : Nat) : (fm f (l.take i)).length ≤ listSize T l :=
 Nat.le_trans (fm_len T f h _) (listSize_take_le T l i)
theorem size_app (l m : List Str) : listSize Ty.str (l ++ m) = listSize Ty.str l + listSize Ty.str m := by
 induction l with
 | nil => simp [listSize]
 | cons x l ih =>
  have e : listSize Ty.str (x :: l) = x.length + listSize Ty.str l := rfl
  have e2 : listSize Ty.str (x :: l ++ m) = x.length + listSize Ty.str (l ++ m) := rfl
  rw [e, e2, ih]; omega
end
theorem cvF_size (x : VCond) : listSize Ty.str (cvF x) ≤ tCond.size x := by
 have hz := tCond_sz x
 have e : listSize Ty.str [x.2.2.1, x.2.2.2] = x.2.2.1.length + (x.2.2.2.length + 0) := rfl
 rw [cvF, size_app, e]; omega
theorem ins_vs_len (l : List Str) : (insAll blt (vs l)).length ≤ listSize Ty.str l := Nat.le_trans (insAll_le _) (vs_sz l)
theorem tAction_sz (a : VAction) : tAction.size a = a.2.1.length + (a.2.2.length + listSize Ty.str a.2.2) := by
 have h : tAction.size a = 0 + tFct.size a.2 := rfl
 rw [h, tFct_size, tStrs_size]; omega
theorem tRule_sz (r : VRule) : tRule.size r = r.1.length + (r.2.2.1.length + listSize tCond r.2.2.1) + (r.2.2.2.length + listSize tAction r.2.2.2) := by
 have h1 : tConds.size r.2.2.1 = r.2.2.1.length + listSize tCond r.2.2.1 := rfl
 have h2 : tActions.size r.2.2.2 = r.2.2.2.length + listSize tAction r.2.2.2 := rfl
 rw [tRule_size, h1, h2]; omega
def bvC (x : VCond) : List Str := if x.1 = 1 then insAll blt (vs x.2.1.2) else []
def cvC (x : VCond) : List Str := insAll blt (vs (cvF x))
def avC (a : VAction) : List Str := insAll blt (vs a.2.2)
theorem bvC_len (x : VCond) : (bvC x).length ≤ tCond.size x := by
 have hz := tCond_sz x
 have := ins_vs_len x.2.1.2
 unfold bvC; split
 ·omega
 ·simp
theorem cvC_len (x : VCond) : (cvC x).length ≤ tCond.size x := Nat.le_trans (ins_vs_len _) (cvF_size x)
theorem avC_len (x : VAction) : (avC x).length ≤ tAction.size x := by
 have hz := tAction_sz x
 have := ins_vs_len x.2.2
 unfold avC; omega
def isActF (a : VAction) : Bool := if hasKind a.1 then isPatF a.2 else if a.1 = 3 then zeroP a.2 else false
def bvF (l : List VCond) (n : Nat) : List Str := insAll blt (fm bvC (l.take n))
def cvsF (l : List VCond) : List Str := insAll blt (fm cvC l)
def rvF (l : List VCond) (m : List VAction) : List Str := insAll blt (fm cvC l ++ fm avC m)
def findR : List VRule → Str → Int → Int
 | [], _, _ => -1
 | g :: l, f, n => if g.1 = f then n else findR l f (n + 1)
theorem findR_drop {l : List VRule} {f : Str} {i : Nat} (hi : i < l.length) : findR (l.drop i) f i = if (l.getD i default).1 = f then (i : Int) else findR (l.drop (i + 1)) f ((i + 1 : Nat) : Int) := by
 rw [List.drop_eq_getElem_cons hi, findR]
 simp [List.getD, hi]
def elseF (l : List VCond) (m : List VAction) (i : Nat) (v : Str) : Bool := decide (v ∈ fm cvC (l.take i ++ l.drop (i + 1)) ++ fm avC m)
def okV (l : List VCond) (m : List VAction) (i : Nat) (x : VCond) (v : Str) : Bool := decide (v ∈ bvF l i) || (!isTestF x && !(x.1 == 2 && elseF l m i v))
def okC (l : List VCond) (m : List VAction) (i : Nat) (x : VCond) : Bool := isCondF x && (!(i == 0) || x.1 == 1) && (cvC x).all (okV l m i x)
def okA (b : List Str) (a : VAction) : Bool := isActF a && (avC a).all fun v => decide (v ∈ b)
def isRuleF (r : VRule) : Bool :=
 nameF r.1 && decide (0 ≤ r.2.1) && decide (r.2.1 ≤ 9) && decide (1 ≤ r.2.2.1.length) && decide (r.2.2.1.length ≤ 4) && decide (1 ≤ r.2.2.2.length) && decide (r.2.2.2.length ≤ 2)
  && ((List.range r.2.2.1.length).all fun i => okC r.2.2.1 r.2.2.2 i (r.2.2.1.getD i default)) && r.2.2.2.all (okA (bvF r.2.2.1 r.2.2.1.length)) && decide ((cvsF r.2.2.1).length ≤ 6)
theorem bvC_sub {x : VCond} {v : Str} (h : v ∈ bvC x) : v ∈ cvC x := by
 unfold bvC at h
 split at h
 ·rw [cvC, mem_insB]
  rw [mem_insB] at h
  rw [cv_eq]
  simp [h]
 ·cases h
theorem bvF_mem {l : List VCond} {n : Nat} {v : Str} : v ∈ bvF l n ↔ ∃ x ∈ l.take n, v ∈ bvC x := by rw [bvF, mem_insB, fm_mem]
theorem rv_cvs {l : List VCond} {m : List VAction} (h : m.all (okA (bvF l l.length)) = true) : rvF l m = cvsF l := by
 refine insB_congr fun v => ?_
 rw [List.mem_append]
 refine ⟨fun hv => ?_, .inl⟩
 rcases hv with hv | hv
 ·exact hv
 ·obtain ⟨a, ha, hv⟩ := fm_mem.1 hv
  have h1 := List.all_eq_true.1 h a ha
  rw [okA, Bool.and_eq_true] at h1
  have h2 := of_decide_eq_true (List.all_eq_true.1 h1.2 v hv)
  obtain ⟨x, hx, hv⟩ := bvF_mem.1 h2
  rw [List.take_length] at hx
  exact fm_mem.2 ⟨x, hx, bvC_sub hv⟩
theorem rule_no {r : VRule} (h : ¬ (nameF r.1 = true ∧ 0 ≤ r.2.1 ∧ r.2.1 ≤ 9 ∧ 1 ≤ r.2.2.1.length ∧ r.2.2.1.length ≤ 4 ∧ 1 ≤ r.2.2.2.length ∧ r.2.2.2.length ≤ 2)) : isRuleF r = false := by
 rw [Bool.eq_false_iff]
 intro h'
 simp only [isRuleF, Bool.and_eq_true, decide_eq_true_eq] at h'
 exact h ⟨h'.1.1.1.1.1.1.1.1.1, h'.1.1.1.1.1.1.1.1.2, h'.1.1.1.1.1.1.1.2, h'.1.1.1.1.1.1.2, h'.1.1.1.1.1.2, h'.1.1.1.1.2, h'.1.1.1.2⟩
theorem rule_noC {r : VRule} {i : Nat} (hi : i < r.2.2.1.length) (h : okC r.2.2.1 r.2.2.2 i (r.2.2.1.getD i default) = false) : isRuleF r = false := by
 have : ((List.range r.2.2.1.length).all fun i => okC r.2.2.1 r.2.2.2 i (r.2.2.1.getD i default)) = false := by
  rw [List.all_eq_false]
  exact ⟨i, List.mem_range.2 hi, by rw [h]; simp⟩
 rw [isRuleF, this, Bool.and_false, Bool.false_and, Bool.false_and]
theorem getD_mem {α : Type} [Inhabited α] {l : List α} {i : Nat} (hi : i < l.length) : l.getD i default ∈ l := by simp [List.getD, hi]
theorem rule_noA {r : VRule} {i : Nat} (hi : i < r.2.2.2.length) (h : okA (bvF r.2.2.1 r.2.2.1.length) (r.2.2.2.getD i default) = false) : isRuleF r = false := by
 have : r.2.2.2.all (okA (bvF r.2.2.1 r.2.2.1.length)) = false := by
  rw [List.all_eq_false]
  exact ⟨_, getD_mem hi, by rw [h]; simp⟩
 simp [isRuleF, this]
theorem rule_yes {r : VRule} (h : nameF r.1 = true ∧ 0 ≤ r.2.1 ∧ r.2.1 ≤ 9 ∧ 1 ≤ r.2.2.1.length ∧ r.2.2.1.length ≤ 4 ∧ 1 ≤ r.2.2.2.length ∧ r.2.2.2.length ≤ 2)
 (hc : ∀ i, i < r.2.2.1.length → okC r.2.2.1 r.2.2.2 i (r.2.2.1.getD i default) = true) (ha : ∀ i, i < r.2.2.2.length → okA (bvF r.2.2.1 r.2.2.1.length) (r.2.2.2.getD i default) = true) :
 isRuleF r = decide ((rvF r.2.2.1 r.2.2.2).length ≤ 6) := by
 have h1 : ((List.range r.2.2.1.length).all fun i => okC r.2.2.1 r.2.2.2 i (r.2.2.1.getD i default)) = true := List.all_eq_true.2 fun i hi => hc i (List.mem_range.1 hi)
 have h2 : r.2.2.2.all (okA (bvF r.2.2.1 r.2.2.1.length)) = true := List.all_eq_true.2 fun a ha' => by
  obtain ⟨i, hi⟩ := List.getElem?_of_mem ha'
  have hl := getElem?_lt hi
  have := ha i hl
  have e : r.2.2.2.getD i default = a := by simp [List.getD, hi]
  rwa [e] at this
 obtain ⟨a1, a2, a3, a4, a5, a6, a7⟩ := h
 rw [rv_cvs h2]
 simp only [isRuleF, a1, a2, a3, a4, a5, a6, a7, h1, h2, decide_true, Bool.and_self, Bool.true_and]
def areRF (l : List VRule) : Bool := decide (l.length ≤ 6) && (List.range l.length).all fun i => isRuleF (l.getD i default) && findR l (l.getD i default).1 0 == (i : Int)
theorem areR_no {l : List VRule} {i : Nat} (hi : i < l.length) (h : (isRuleF (l.getD i default) && findR l (l.getD i default).1 0 == (i : Int)) = false) : areRF l = false := by
 have : ((List.range l.length).all fun i => isRuleF (l.getD i default) && findR l (l.getD i default).1 0 == (i : Int)) = false := by
  rw [List.all_eq_false]
  exact ⟨i, List.mem_range.2 hi, by rw [h]; simp⟩
 rw [areRF, this, Bool.and_false]
theorem areR_yes {l : List VRule} (h : ∀ i, i < l.length → (isRuleF (l.getD i default) && findR l (l.getD i default).1 0 == (i : Int)) = true) : areRF l = decide (l.length ≤ 6) := by
 have : ((List.range l.length).all fun i => isRuleF (l.getD i default) && findR l (l.getD i default).1 0 == (i : Int)) = true := List.all_eq_true.2 fun i hi => h i (List.mem_range.1 hi)
 rw [areRF, this, Bool.and_true]
open Abs
abbrev tokT (ts : List VToken) : Tr := .l 90 2 (ts.map tToken.q)
abbrev TA := AccO tToken 90 0
theorem listSize_sub {α : Type} (T : Ty α) {c n : Nat} : ∀ (l : List α), (∀ a ∈ l, T.size a ≤ c) → l.length ≤ n → listSize T l ≤ c * n
 | [], _, _ => Nat.zero_le _
 | a :: l, h, hn => by
  have h1 := h a List.mem_cons_self
  rw [List.length_cons] at hn
  have h2 := listSize_sub T (n := n - 1) l (fun b hb => h b (List.mem_cons_of_mem _ hb)) (by omega)
  show T.size a + listSize T l ≤ _
  have : c * n = c * (n - 1) + c := by rw [← Nat.mul_succ]; congr 1; omega
  omega
theorem tok_own {F : Fr} {kf kb : Nat} {fs : List Fct} {m : List VPair} {ys : List (List AV)} {us : List Nat} (h : AccO tFct 86 kf F fs ys us) (hb : F[kb]? = some (141, 2, m.length)) (hne : kb ≠ kf) (hbu : kb ∉ us) :
 ∃ vs, OwnA F (tToken.q (fs, m)) [.list (some kf) ys, .list (some kb) (pairs m)] vs ∧ vs.Nodup ∧ ∀ j ∈ vs, j = kf ∨ j = kb ∨ j ∈ us := by
 have h1 : OwnA F [.l 141 2 (m.map tPair.q)] [.list (some kb) (pairs m)] [kb] := plain_ownA tPair (fun _ => rfl) (fun _ => rfl) F _ kb m hb .nil
 refine ⟨kf :: us ++ [kb], .l 86 2 (fs.map tFct.q) kf ys (by rw [h.hk, List.length_map]; rfl) (by rw [h.hl, List.length_map]) (fun e he => ?_) h.hs h.own h1, ?_, fun j hj => ?_⟩
 ·obtain ⟨a, _, rfl⟩ := List.mem_map.1 he
  exact tFct.hq a
 ·rw [List.cons_append, List.nodup_cons, List.nodup_append]
  refine ⟨fun hm => ?_, h.nd, by simp, fun a ha b hb' e => ?_⟩
  ·rcases List.mem_append.1 hm with hm | hm
   ·exact h.kn hm
   ·exact hne (List.mem_singleton.1 hm).symm
  ·rw [List.mem_singleton.1 hb'] at e; exact hbu (e ▸ ha)
 ·rcases List.mem_append.1 hj with hj | hj
  ·rcases List.mem_cons.1 hj with hj | hj
   ·exact .inl hj
   ·exact .inr (.inr hj)
  ·exact .inr (.inl (List.mem_singleton.1 hj))
theorem tok_step {F : Fr} {acc : List VToken} {ys : List (List AV)} {ts : List Nat} (hA : TA F acc ys ts) (fs : List Fct) (f : Fct) (m : List VPair) {n n1 n2 c c' : Nat} (hn : n = F.length) (hn1 : n1 = n + 1 + (frs tFct fs).length) (hn2 : n2 = n1 + 1) (hc : c = fs.length + 1) (hc' : c' = acc.length + 1) :
 ∃ us, TA ((((F ++ [(141, 2, m.length)]) ++ tFcts.fr fs ++ tFct.fr f).set n1 (86, 2, c)).set 0 (90, 2, c')) (acc ++ [(fs ++ [f], m)]) (ys ++ [[.list (some n1) (tks tFct fs (n + 1) ++ [tFct.tk f n2]), .list (some n) (pairs m)]]) us := by
 subst hn hn1 hn2 hc
 obtain ⟨us1, h1, g1⟩ := AccO.ofTks tFct 86 fs (F ++ [(141, 2, m.length)])
 have hl1 : (F ++ [(141, 2, m.length)]).length = F.length + 1 := by simp
 rw [hl1] at h1 g1
 have hfr : tFcts.fr fs = frs tFct fs ++ [(86, tFct.sz, fs.length)] := rfl
 rw [hfr]
 generalize hF2 : (F ++ [(141, 2, m.length)]) ++ (frs tFct fs ++ [(86, tFct.sz, fs.length)]) = F2 at h1 ⊢
 have hl2 : F2.length = F.length + 1 + (frs tFct fs).length + 1 := by rw [← hF2]; simp; omega
 obtain ⟨us2, h2, n2, g2⟩ := tFct.tkOwn f (n := F.length + 1 + (frs tFct fs).length + 1) (F := F2 ++ tFct.fr f) (fun i x hi => by rw [List.getElem?_append_right (by omega), hl2, Nat.add_sub_cancel_left]; exact hi)
 have h3 := (h1.grow (tFct.fr f)).snoc (m := fs.length + 1) f _ us2 rfl h2 n2 (fun j hj => by
  have := g2 j hj
  exact ⟨by omega, fun hm => by have := (g1 j hm).2; omega⟩)
 have hbk : ((F2 ++ tFct.fr f).set (F.length + 1 + (frs tFct fs).length) (86, tFct.sz, fs.length + 1))[F.length]? = some (141, 2, m.length) := by
  rw [List.getElem?_set, if_neg (by omega), List.getElem?_append_left (by omega), ← hF2, List.getElem?_append_left (by simp), List.getElem?_append_right (Nat.le_refl _), Nat.sub_self]; rfl
 have hF3 : ∀ j, j < F.length → ((F2 ++ tFct.fr f).set (F.length + 1 + (frs tFct fs).length) (86, tFct.sz, fs.length + 1))[j]? = F[j]? := fun j hj => by
  rw [List.getElem?_set, if_neg (by omega), List.getElem?_append_left (by omega), ← hF2, List.getElem?_append_left (by simp; omega), List.getElem?_append_left hj]
 obtain ⟨vs, o1, o2, o3⟩ := tok_own h3 hbk (by omega) (fun hm => by
  rcases List.mem_append.1 hm with hm | hm
  ·have := (g1 _ hm).1; omega
  ·have := (g2 _ hm).1; omega)
 have hA' : TA ((F2 ++ tFct.fr f).set (F.length + 1 + (frs tFct fs).length) (86, tFct.sz, fs.length + 1)) acc ys ts :=
  ⟨by rw [hF3 0 hA.klt]; exact hA.hk, hA.hl, hA.hs, hA.own.mono fun j hj => hF3 j (hA.own.lt j hj), hA.nd, hA.kn⟩
 have h0 := hA.klt
 refine ⟨_, hA'.snoc _ _ vs hc' o1 o2 fun j hj => ?_⟩
 have hlow : ∀ j, j ∈ vs → F.length ≤ j := fun j hj => by
  rcases o3 j hj with h | h | h
  ·omega
  ·omega
  ·rcases List.mem_append.1 h with h | h
   ·have := (g1 _ h).1; omega
   ·have := (g2 _ h).1; omega
 have := hlow j hj
 exact ⟨by omega, fun hm => by have := hA.own.lt j hm; omega⟩
theorem tok_head {F : Fr} {acc : List VToken} {ys : List (List AV)} {ts : List Nat} (hA : TA F acc ys ts) (fs : List Fct) (f : Fct) (m : List VPair) :
 (((F ++ [(141, 2, m.length)]) ++ tFcts.fr fs ++ tFct.fr f).set (F.length + 1 + (frs tFct fs).length) (86, 2, fs.length + 1))[0]? = some (90, 2, ys.length) := by
 have := hA.klt
 rw [List.getElem?_set, if_neg (by omega), List.getElem?_append_left (by simp; omega), List.getElem?_append_left (by simp), List.getElem?_append_left this, hA.hk, hA.hl]; rfl
theorem tok_copy {F : Fr} {acc : List VToken} {ys : List (List AV)} {ts : List Nat} (hA : TA F acc ys ts) (t : VToken) {n c' : Nat} (hn : n = F.length) (hc' : c' = acc.length + 1) :
 ∃ us, TA ((F ++ tToken.fr t).set 0 (90, 2, c')) (acc ++ [t]) (ys ++ [tToken.tk t n]) us := by
 subst hn
 obtain ⟨us2, h2, n2, g2⟩ := tToken.tkOwn t (n := F.length) (F := F ++ tToken.fr t) (fun i x hi => by rw [List.getElem?_append_right (by omega), Nat.add_sub_cancel_left]; exact hi)
 refine ⟨_, (hA.grow (tToken.fr t)).snoc t _ us2 hc' h2 n2 fun j hj => ?_⟩
 have := g2 j hj
 have h0 := hA.klt
 exact ⟨by omega, fun hm => by have := hA.own.lt j hm; omega⟩
theorem sCopyT.own (t : VToken) (h : tToken.size t ≤ 1048576) : sCopyT.Own [.agg (oldL (tToken.q t))] (.a (tToken.q t)) := by
 rw [tToken_size] at h
 refine Ty.ownA tToken ?_
 refine sCopyT.ir.of rfl ?_
 have hf := tFcts_canon.ret rfl rfl (sCopies.own t.1 (by omega))
 have hb := sCopyB.ret t.2 (by omega)
 repeat' first
  | (conv => whnf
     first | refine Need.mk rfl ?_ | refine Need.mk ⟨rfl, Nat.le_of_ble_eq_true rfl⟩ ?_ | refine nb_ ?_ | refine FinAgg.keep ?_ | refine Final.mk rfl rfl | refine ACall.mkFcts _ _ (hf) (by repeat' first | exact SeesL.nil | refine SeesL.cons ?_ ?_ | exact SeesB.of0 (Sees0.val _) | exact SeesB.of0 (Sees0.str _) | exact SeesB.of0 (Sees0.olds _ _) | exact SeesB.of0 (Sees0.old _) | exact SeesB.of0 (Sees0.oldagg _) | exact SeesB.of0 Sees0.nil | exact Sees0.val _ | exact Sees0.str _ | exact Sees0.olds _ _ | exact Sees0.old _ | exact Sees0.oldagg _ | exact Sees0.nil | exact SeesB.of0 (Sees0.any _) | assumption | exact sees_gv _ _ _ (by assumption) (by first | assumption | exact BoxIn.last _ _ | exact BoxIn.more (BoxIn.last _ _) _) | refine SeesB.agg ?_ | refine Sees0.agg ?_ | exact SeesB.of0 (Sees0.clo SeesL.nil SeesL.nil) | exact Sees0.clo SeesL.nil SeesL.nil | exact SeesB.of0 (Sees0.list rfl) | exact Sees0.list rfl) ?_ | refine ACall.mkLA _ _ _ _ (hb) ?_)
theorem sMatchFact.retB (p : VPattern) (f : Fct) (b : List VPair) (h1 : tPattern.size p ≤ 1048576) (h2 : tFct.size f ≤ 1048576) (h3 : tPairs.size b ≤ 1048576) :
 sMatchFact.Ret [.agg (oldL (tPattern.q p)), .agg (oldL (tFct.q f)), .list none (pairs b)] (.tup [.list (some 0) (pairs ((matM p f b).getD [])), .val (.bool (matM p f b).isSome)]) [(141, 2, ((matM p f b).getD []).length)] :=
 plain_retP (fun _ => rfl) (fun _ => rfl) tPair_canon (sMatchFact.own p f b h1 h2 h3)
def hasF (l : List Fct) (p : VPattern) (t : VToken) : List VToken := l.filterMap fun f => (matM p f t.2).map fun b => (t.1 ++ [f], b)
theorem hasF_yes {l : List Fct} {p : VPattern} {t : VToken} {k : Nat} (hk : k < l.length) {b : List VPair} (h : matM p (l.getD k default) t.2 = some b) : hasF (l.take (k + 1)) p t = hasF (l.take k) p t ++ [(t.1 ++ [l.getD k default], b)] := by
 rw [take_succ' default hk, hasF, List.filterMap_append]
 generalize l.getD k default = f at h ⊢
 simp [hasF, h]
theorem hasF_no {l : List Fct} {p : VPattern} {t : VToken} {k : Nat} (hk : k < l.length) (h : matM p (l.getD k default) t.2 = none) : hasF (l.take (k + 1)) p t = hasF (l.take k) p t := by
 rw [take_succ' default hk, hasF, List.filterMap_append]
 generalize l.getD k default = f at h ⊢
 simp [hasF, h]
theorem hasF_le (l : List Fct) (p : VPattern) (t : VToken) (k : Nat) : (hasF (l.take k) p t).length ≤ l.length :=
 Nat.le_trans (List.length_filterMap_le _ _) (by rw [List.length_take]; omega)
theorem nextF_has {l : List Fct} {x : VCond} (h : x.1 = 1) (t : VToken) : nextF l x t = hasF l x.2.1 t := by rw [nextF, if_pos h]; rfl
theorem tok_sz {l : List Fct} {n : Nat} {t : VToken} (hl : ∀ f ∈ l, isFactF f = true) (h : GoodT l n t) (hn : n ≤ 5) : tToken.size t ≤ 1048576 := by
 have := goodT_size hl h hn
 rw [tToken_size]; omega
theorem tget {ts : List VToken} {i : Nat} (hi : i < ts.length) : ts.getD i default ∈ ts := by
 rw [List.getD_eq_getElem?_getD, List.getElem?_eq_getElem hi]; exact List.getElem_mem hi
set_option maxHeartbeats 4000000 in
theorem sNext.own (ts : List VToken) (x : VCond) (l : List Fct) (hx : tCond.size x ≤ 1048576) (h : tFcts.size l ≤ 1048576) (hl : ∀ f ∈ l, isFactF f = true) (hl24 : l.length ≤ 24) (hts : ts.length ≤ 331776) (hg : ∀ t ∈ ts, GoodT l 4 t) :
 sNext.Own [.list none (rows tToken ts), .agg (oldL (tCond.q x)), .list none (facts l)] (tokT (stepF l ts x)) := by
 refine Abs.IrAt.ownP sNext.ir rfl ?_
 have hp := tCond_pat x
 rw [tFcts_size] at h
 repeat' first
  | (conv => whnf
     first | refine Need.mk rfl ?_)
 refine ALoop.mk (Nat × Fr × List (List AV)) (fun i => ⟨[(0, .list none (rows tToken ts)), (2, .list none (facts l)), (4, .bptr 0 0), (7, .list (some 0) i.2.2), (8, .val (.int .i64 i.1))], [.cells .var (oldL (tCond.q x))], i.2.1⟩)
  (fun i => i.1 ≤ ts.length ∧ ∃ us, TA i.2.1 (stepF l (ts.take i.1) x) i.2.2 us) (fun i => ts.length - i.1) ⟨(0, [(90, 2, 0)], []), ⟨Nat.zero_le _, [], AccO.nil rfl⟩, ?_⟩ (fun i hi => ?_)
 ·repeat' first
   | exact trivial | refine wl_ ?_ ?_ ?_ ?_ | refine And.intro ?_ ?_ | with_reducible rfl | exact ble_ | refine fr1 ?_ | refine AV.int_congr ?_ | refine AV.list_congr ?_ | (apply rfl)
 obtain ⟨i, F, ys⟩ := i
 obtain ⟨hi, us, hA⟩ := hi
 simp only at hi hA ⊢
 have hrl : (rows tToken ts).length = ts.length := length_rows _ _
 have hfl : (facts l).length = l.length := length_rows _ _
 by_cases hi' : i < ts.length
 rotate_left
 ·have e : i = ts.length := by omega
  subst e
  rw [List.take_length] at hA
  repeat' first
   | (conv => whnf
      first | refine Need.mk rfl ?_ | refine Fork.decN ?_)
  exact hA.final
 have hgt := hg _ (tget hi')
 have hsz := goodT_size hl hgt (by omega)
 have hAk := hA.hk
 have hAl := hA.hl
 have hle := stepF_le hl24 (x := x) ts i
 by_cases hk : x.1 = 1
 ·repeat' first
   | contradiction
   | (conv => whnf
      first | refine Need.mk rfl ?_ | refine Fork.decY ?_ | refine Fork.bne (fun _ => ?_) (fun _ => ?_))
  refine ALoop.mk (Nat × Fr × List (List AV)) (fun k => ⟨[(0, .list none (rows tToken ts)), (2, .list none (facts l)), (4, .bptr 0 0), (7, .list (some 0) k.2.2), (8, .val (.int .i64 i)), (9, .val (.int .i64 k.1))], [.cells .var (oldL (tCond.q x))], k.2.1⟩)
   (fun k => k.1 ≤ l.length ∧ ∃ us, TA k.2.1 (stepF l (ts.take i) x ++ hasF (l.take k.1) x.2.1 (ts.getD i default)) k.2.2 us) (fun k => l.length - k.1) ⟨(0, F, ys), ⟨Nat.zero_le _, us, by simpa [hasF] using hA⟩, ?_⟩ (fun k hk2 => ?_)
  ·repeat' first
    | exact trivial | refine wl_ ?_ ?_ ?_ ?_ | refine And.intro ?_ ?_ | with_reducible rfl | exact ble_ | refine AV.int_congr ?_ | refine AV.list_congr ?_ | (apply rfl)
  obtain ⟨k, G, zs⟩ := k
  obtain ⟨hk2, vs, hB⟩ := hk2
  simp only at hk2 hB ⊢
  have hBk := hB.hk
  have hBl := hB.hl
  have hle2 := hasF_le l x.2.1 (ts.getD i default) k
  rw [List.length_append] at hBk hBl
  by_cases hk' : k < l.length
  rotate_left
  ·have e : k = l.length := by omega
   subst e
   rw [List.take_length, ← nextF_has hk, ← stepF_take hi'] at hB
   repeat' first
    | (conv => whnf
       first | refine Need.mk rfl ?_ | refine Fork.decN ?_ | refine Round.mk ?_)
   refine ⟨(i + 1, G, zs), ⟨by simp only; omega, vs, hB⟩, ?_, by simp only; omega⟩
   repeat' first
    | exact trivial | refine wl_ ?_ ?_ ?_ ?_ | refine And.intro ?_ ?_ | with_reducible rfl | exact ble_ | refine AV.int_congr ?_ | refine AV.list_congr ?_ | (apply rfl)
   rw [wrap64 (by omega) (by omega)]; rfl
  have hf1 : tFct.size (l.getD k default) ≤ 1048576 := by have := fct_le hk'; omega
  have hm := sMatchFact.retB x.2.1 (l.getD k default) (ts.getD i default).2 (by omega) hf1 (by omega)
  have hfs := tFcts_canon.ret rfl rfl (sCopies.own (ts.getD i default).1 (by omega))
  have hfc := sCopy.ret (l.getD k default) hf1
  cases hmm : matM x.2.1 (l.getD k default) (ts.getD i default).2 with
  | none =>
   rw [hmm] at hm
   repeat' first
    | contradiction
    | (conv => whnf
       first | refine Need.mk rfl ?_ | refine nb_ ?_ | refine Ix.mapN (fun _ => rfl) ?_ | refine Fork.decY ?_ | refine Fork.mk (fun _ => ?_) (fun _ => ?_) | refine Round.mk ?_ | refine ACall.mkTB tPair _ _ _ _ (hm) (by repeat' first | exact SeesL.nil | refine SeesL.cons ?_ ?_ | exact SeesB.of0 (Sees0.val _) | exact SeesB.of0 (Sees0.str _) | exact SeesB.of0 (Sees0.olds _ _) | exact SeesB.of0 (Sees0.old _) | exact SeesB.of0 (Sees0.oldagg _) | exact SeesB.of0 Sees0.nil | exact Sees0.val _ | exact Sees0.str _ | exact Sees0.olds _ _ | exact Sees0.old _ | exact Sees0.oldagg _ | exact Sees0.nil | exact SeesB.of0 (Sees0.any _) | assumption | exact sees_gv _ _ _ (by assumption) (by first | assumption | exact BoxIn.last _ _ | exact BoxIn.more (BoxIn.last _ _) _) | refine SeesB.agg ?_ | refine Sees0.agg ?_ | exact SeesB.of0 (Sees0.clo SeesL.nil SeesL.nil) | exact Sees0.clo SeesL.nil SeesL.nil | exact SeesB.of0 (Sees0.list rfl) | exact Sees0.list rfl) ?_)
   refine ⟨(k + 1, G ++ [(141, 2, 0)], zs), ⟨by simp only; omega, vs, by rw [hasF_no hk' hmm]; exact hB.grow _⟩, ?_, by simp only; omega⟩
   repeat' first
    | exact trivial | refine wl_ ?_ ?_ ?_ ?_ | refine And.intro ?_ ?_ | with_reducible rfl | exact ble_ | refine AV.int_congr ?_ | refine AV.list_congr ?_ | (apply rfl)
   rw [wrap64 (by omega) (by omega)]; rfl
  | some b =>
   rw [hmm] at hm
   obtain ⟨us', hS⟩ := tok_step hB (ts.getD i default).1 (l.getD k default) b (c' := (stepF l (ts.take i) x).length + (hasF (l.take k) x.2.1 (ts.getD i default)).length + 1) rfl rfl rfl rfl (by rw [List.length_append])
   rw [List.append_assoc (stepF l (ts.take i) x), ← hasF_yes hk' hmm] at hS
   repeat' first
    | contradiction
    | (conv => whnf
       first | refine Need.mk rfl ?_ | refine nb_ ?_ | refine Need.finN ?_ | refine Ix.mapN (fun _ => rfl) ?_ | refine Fork.decY ?_ | refine Fork.mk (fun _ => ?_) (fun _ => ?_) | refine Lit.read rfl ?_ | refine ACall.mkTB tPair _ _ _ _ (hm) (by repeat' first | exact SeesL.nil | refine SeesL.cons ?_ ?_ | exact SeesB.of0 (Sees0.val _) | exact SeesB.of0 (Sees0.str _) | exact SeesB.of0 (Sees0.olds _ _) | exact SeesB.of0 (Sees0.old _) | exact SeesB.of0 (Sees0.oldagg _) | exact SeesB.of0 Sees0.nil | exact Sees0.val _ | exact Sees0.str _ | exact Sees0.olds _ _ | exact Sees0.old _ | exact Sees0.oldagg _ | exact Sees0.nil | exact SeesB.of0 (Sees0.any _) | assumption | exact sees_gv _ _ _ (by assumption) (by first | assumption | exact BoxIn.last _ _ | exact BoxIn.more (BoxIn.last _ _) _) | refine SeesB.agg ?_ | refine Sees0.agg ?_ | exact SeesB.of0 (Sees0.clo SeesL.nil SeesL.nil) | exact Sees0.clo SeesL.nil SeesL.nil | exact SeesB.of0 (Sees0.list rfl) | exact Sees0.list rfl) ?_ | refine ACall.mkFcts _ _ (hfs) (by repeat' first | exact SeesL.nil | refine SeesL.cons ?_ ?_ | exact SeesB.of0 (Sees0.val _) | exact SeesB.of0 (Sees0.str _) | exact SeesB.of0 (Sees0.olds _ _) | exact SeesB.of0 (Sees0.old _) | exact SeesB.of0 (Sees0.oldagg _) | exact SeesB.of0 Sees0.nil | exact Sees0.val _ | exact Sees0.str _ | exact Sees0.olds _ _ | exact Sees0.old _ | exact Sees0.oldagg _ | exact Sees0.nil | exact SeesB.of0 (Sees0.any _) | assumption | exact sees_gv _ _ _ (by assumption) (by first | assumption | exact BoxIn.last _ _ | exact BoxIn.more (BoxIn.last _ _) _) | refine SeesB.agg ?_ | refine Sees0.agg ?_ | exact SeesB.of0 (Sees0.clo SeesL.nil SeesL.nil) | exact Sees0.clo SeesL.nil SeesL.nil | exact SeesB.of0 (Sees0.list rfl) | exact Sees0.list rfl) ?_ | refine ACall.mkFct _ _ (hfc) (by repeat' first | exact SeesL.nil | refine SeesL.cons ?_ ?_ | exact SeesB.of0 (Sees0.val _) | exact SeesB.of0 (Sees0.str _) | exact SeesB.of0 (Sees0.olds _ _) | exact SeesB.of0 (Sees0.old _) | exact SeesB.of0 (Sees0.oldagg _) | exact SeesB.of0 Sees0.nil | exact Sees0.val _ | exact Sees0.str _ | exact Sees0.olds _ _ | exact Sees0.old _ | exact Sees0.oldagg _ | exact Sees0.nil | exact SeesB.of0 (Sees0.any _) | assumption | exact sees_gv _ _ _ (by assumption) (by first | assumption | exact BoxIn.last _ _ | exact BoxIn.more (BoxIn.last _ _) _) | refine SeesB.agg ?_ | refine Sees0.agg ?_ | exact SeesB.of0 (Sees0.clo SeesL.nil SeesL.nil) | exact Sees0.clo SeesL.nil SeesL.nil | exact SeesB.of0 (Sees0.list rfl) | exact Sees0.list rfl) ?_)
   have hG1 : (G ++ [(141, 2, ((some b).getD []).length)]).length = G.length + 1 := by simp
   have hfsz : (ts.getD i default).1.length ≤ 4 := hgt.le
   obtain ⟨F3, hF3⟩ := head_cons (tok_head hB (ts.getD i default).1 (l.getD k default) b)
   rw [hF3] at hS
   refine appK_to (F' := (90, 2, zs.length) :: F3) ?_ ?_ ?_ ?_ ?_
   ·rw [length_tks, List.append_assoc, List.getElem?_append_right (by omega), List.getElem?_append_left (by simp [Ty.list, tFcts]), Nat.add_sub_cancel_left]
    show (frs tFct (ts.getD i default).1 ++ [_])[_]? = _
    rw [List.getElem?_append_right (Nat.le_refl _), Nat.sub_self]; rfl
   ·intro c hc; rw [List.mem_singleton.1 hc]; exact tFct.htk _ _
   ·rw [List.length_singleton, length_tks]; omega
   ·rw [← hF3, hG1, length_tks]; rfl
   rw [hG1]
   have hG2 : (G ++ [(141, 2, ((some b).getD []).length)] ++ tFcts.fr (ts.getD i default).1).length = G.length + 1 + (frs tFct (ts.getD i default).1).length + 1 := by
    rw [show tFcts.fr (ts.getD i default).1 = frs tFct (ts.getD i default).1 ++ [(86, tFct.sz, (ts.getD i default).1.length)] from rfl]; simp only [List.length_append, List.length_singleton]; omega
   rw [hG2]
   repeat' first
    | (conv => whnf
       first | refine Need.mk rfl ?_ | refine Need.mk ?_ ?_ | refine Round.mk ?_ | refine Lit.read rfl ?_)
   ·intro c hc; rw [List.mem_singleton.1 hc]; rfl
   ·simp only [List.length_singleton]; omega
   ·refine ⟨(k + 1, _, _), ⟨by simp only; omega, us', hS⟩, ?_, by simp only; omega⟩
    repeat' first
     | exact trivial | refine wl_ ?_ ?_ ?_ ?_ | refine And.intro ?_ ?_ | with_reducible rfl | exact ble_ | refine AV.int_congr ?_ | refine AV.list_congr ?_ | (apply rfl)
    ·rw [wrap64 (by omega) (by omega)]; rfl
    ·rw [← hBl]; rfl
 ·have hc := sHoldsCond.ret x (ts.getD i default).2 l hx (by omega) (by rw [tFcts_size]; exact h)
  have hco := tToken_canon.retA (sCopyT.own (ts.getD i default) (tok_sz hl hgt (by omega)))
  have hlen1 : ys.length + 1 ≤ 7962625 := by omega
  repeat' first
   | contradiction
   | (conv => whnf
      first | refine Need.mk rfl ?_ | refine nb_ ?_ | refine Ix.mapN (fun _ => rfl) ?_ | refine Fork.decY ?_ | refine Fork.bne (fun _ => ?_) (fun _ => ?_) | refine Fork.mk (fun _ => ?_) (fun _ => ?_) | refine Round.mk ?_ | refine Lit.read rfl ?_ | refine AQCall.mkA _ _ (fun hg => hc) rfl ?_ | refine ACall.mk_Token _ _ (hco) (by repeat' first | exact SeesL.nil | refine SeesL.cons ?_ ?_ | exact SeesB.of0 (Sees0.val _) | exact SeesB.of0 (Sees0.str _) | exact SeesB.of0 (Sees0.olds _ _) | exact SeesB.of0 (Sees0.old _) | exact SeesB.of0 (Sees0.oldagg _) | exact SeesB.of0 Sees0.nil | exact Sees0.val _ | exact Sees0.str _ | exact Sees0.olds _ _ | exact Sees0.old _ | exact Sees0.oldagg _ | exact Sees0.nil | exact SeesB.of0 (Sees0.any _) | assumption | exact sees_gv _ _ _ (by assumption) (by first | assumption | exact BoxIn.last _ _ | exact BoxIn.more (BoxIn.last _ _) _) | refine SeesB.agg ?_ | refine Sees0.agg ?_ | exact SeesB.of0 (Sees0.clo SeesL.nil SeesL.nil) | exact Sees0.clo SeesL.nil SeesL.nil | exact SeesB.of0 (Sees0.list rfl) | exact Sees0.list rfl) ?_)
  ·have hh : holdsCF x (ts.getD i default).2 l = true := by assumption
   have hnx : nextF l x (ts.getD i default) = [ts.getD i default] := by rw [nextF, if_neg hk, hh, if_pos rfl]
   obtain ⟨us', hS⟩ := tok_copy hA (ts.getD i default) (n := F.length) (c' := ys.length + 1) rfl (by omega)
   rw [← hnx, ← stepF_take hi'] at hS
   refine aOps_append (o := none) rfl rfl ?_ ?_ ?_ ?_
   ·rw [List.getElem?_append_left hA.klt, hA.hk, ← hAl]; rfl
   ·intro c hc; rw [List.mem_singleton.1 hc]; exact tToken.htk _ _
   ·rw [List.length_singleton]; omega
   ·repeat' first
     | (conv => whnf
        first | refine Need.mk rfl ?_ | refine Round.mk ?_)
    refine ⟨(i + 1, _, _), ⟨by simp only; omega, us', hS⟩, ?_, by simp only; omega⟩
    repeat' first
     | exact trivial | refine wl_ ?_ ?_ ?_ ?_ | refine And.intro ?_ ?_ | with_reducible rfl | exact ble_ | refine AV.int_congr ?_ | refine AV.list_congr ?_ | (apply rfl)
    rw [wrap64 (by omega) (by omega)]; rfl
  ·have hh : holdsCF x (ts.getD i default).2 l = false := by assumption
   have hnx : nextF l x (ts.getD i default) = [] := by rw [nextF, if_neg hk, hh, if_neg (by simp)]
   refine ⟨(i + 1, F, ys), ⟨by simp only; omega, us, by rw [stepF_take hi', hnx, List.append_nil]; exact hA⟩, ?_, by simp only; omega⟩
   repeat' first
    | exact trivial | refine wl_ ?_ ?_ ?_ ?_ | refine And.intro ?_ ?_ | with_reducible rfl | exact ble_ | refine AV.int_congr ?_ | refine AV.list_congr ?_ | (apply rfl)
   rw [wrap64 (by omega) (by omega)]; rfl
theorem GoodT.mono {l : List Fct} {m n : Nat} {t : VToken} (h : GoodT l m t) (hm : m ≤ n) : GoodT l n t := ⟨Nat.le_trans h.le hm, h.mem, h.bind⟩
theorem nil_acc : TA [(90, 2, 1)] [([], [])] [[.val (.slice none 0 0), .val (.slice none 0 0)]] [] where
 hk := rfl
 hl := rfl
 hs y hy := by rw [List.mem_singleton.1 hy]; rfl
 own := .nils _ _ (.nils _ _ .nil)
 nd := List.nodup_nil
 kn := by simp
set_option maxHeartbeats 4000000 in
theorem sTokens.own (cs : List VCond) (l : List Fct) (hc : tConds.size cs ≤ 1048576) (hc4 : cs.length ≤ 4) (h : tFcts.size l ≤ 1048576) (hl : ∀ f ∈ l, isFactF f = true) (hl24 : l.length ≤ 24) :
 sTokens.Own [.list none (rows tCond cs), .list none (facts l)] (tokT (toksF l cs)) := by
 refine Abs.IrAt.ownP sTokens.ir rfl ?_
 rw [tConds_sz] at hc
 repeat' first
  | (conv => whnf
     first | refine Need.mk rfl ?_)
 refine ALoop.mk (Nat × Fr × Nat × List (List AV)) (fun i => ⟨[(0, .list none (rows tCond cs)), (1, .list none (facts l)), (5, .list (some i.2.2.1) i.2.2.2), (6, .val (.int .i64 i.1))], [], i.2.1⟩)
  (fun i => i.1 ≤ cs.length ∧ ∃ us, AccO tToken 90 i.2.2.1 i.2.1 (toksF l (cs.take i.1)) i.2.2.2 us) (fun i => cs.length - i.1) ⟨(0, [(90, 2, 1)], 0, [[.val (.slice none 0 0), .val (.slice none 0 0)]]), ⟨Nat.zero_le _, [], by rw [List.take_zero, toksF_nil]; exact nil_acc⟩, ?_⟩ (fun i hi => ?_)
 ·repeat' first
   | exact trivial | refine wl_ ?_ ?_ ?_ ?_ | refine And.intro ?_ ?_ | with_reducible rfl | exact ble_ | refine fr1 ?_ | refine AV.int_congr ?_ | refine AV.list_congr ?_ | (apply rfl)
 obtain ⟨i, F, kk, ys⟩ := i
 obtain ⟨hi, us, hA⟩ := hi
 simp only at hi hA ⊢
 have hrl : (rows tCond cs).length = cs.length := length_rows _ _
 by_cases hi' : i < cs.length
 rotate_left
 ·have e : i = cs.length := by omega
  subst e
  rw [List.take_length] at hA
  repeat' first
   | (conv => whnf
      first | refine Need.mk rfl ?_ | refine Fork.decN ?_)
  exact hA.final
 have hx := tCond_le hi'
 have hn := tTokens_canon.ret rfl rfl (sNext.own (toksF l (cs.take i)) (cs.getD i default) l (by omega) h hl hl24 (toksF_len4 hl24 hc4 i) (fun t ht => (toksF_good l cs i hi t ht).mono (by omega)))
 repeat' first
  | (conv => whnf
     first | refine Need.mk rfl ?_ | refine nb_ ?_ | refine Ix.mapN (fun _ => rfl) ?_ | refine Fork.decY ?_)
 conv => whnf
 rw [Int.toNat_natCast]
 refine ACall.mk_TokenS _ _ hn (SeesL.cons hA.sees (SeesL.cons ?_ (SeesL.cons ?_ SeesL.nil))) ?_
 ·exact @Sees0.oldagg (tCond.q (cs.getD i default))
 ·exact @Sees0.olds _ _
 repeat' first
  | (conv => whnf
     first | refine Need.mk rfl ?_ | refine Round.mk ?_)
 obtain ⟨us', hB, _⟩ := AccO.ofTks tToken 90 (stepF l (toksF l (cs.take i)) (cs.getD i default)) F
 rw [← toksF_succ l hi'] at hB
 refine ⟨(i + 1, _, _, _), ⟨by simp only; omega, us', hB⟩, ?_, by simp only; omega⟩
 rw [toksF_succ l hi']
 repeat' first
  | exact trivial | refine wl_ ?_ ?_ ?_ ?_ | refine And.intro ?_ ?_ | with_reducible rfl | exact ble_ | refine AV.int_congr ?_ | refine AV.list_congr ?_ | (apply rfl)
 rw [wrap64 (by omega) (by omega)]; rfl
end Go.Proofs.YtoindmahilbalaaGreat
namespace Go.Proofs.YtoindmahilbalaaGreat
open Abs Go.RowKit
theorem fget {l : List Fct} {i : Nat} (hi : i < l.length) : l[i]? = some (l.getD i default) := by simp [List.getD, hi]
def zf : List AV := [.str [], .val (.slice none 0 0)]
theorem tks_mem {α : Type} (T : Ty α) {c : AV} : ∀ {l : List α} {n : Nat}, c ∈ (tks T l n).flatten → ∃ a m, c ∈ T.tk a m
 | [], _, h => by cases h
 | a :: l, n, h => by
  rw [tks, List.flatten_cons, List.mem_append] at h
  rcases h with h | h
  ·exact ⟨a, n, h⟩
  ·exact tks_mem T h
theorem part_inF (m : Nat) (l : List Fct) (i : Nat) : inB.inBL m (part zf (tks tFct l 0) i) := by
 refine inBL_of fun c hc => ?_
 rw [part, List.mem_append] at hc
 rcases hc with h | h
 ·obtain ⟨x, hx, hc⟩ := List.mem_flatten.1 h
  obtain ⟨a, n, ha⟩ := tks_mem tFct (List.mem_flatten.2 ⟨x, List.mem_of_mem_take hx, hc⟩)
  have ha : c ∈ [AV.str a.1, .list (some n) (strs a.2)] := ha
  rcases List.mem_cons.1 ha with rfl | ha
  ·trivial
  ·rw [List.mem_singleton.1 ha]; trivial
 ·obtain ⟨x, hx, hc⟩ := List.mem_flatten.1 h
  rw [List.eq_of_mem_replicate hx] at hc
  rcases List.mem_cons.1 hc with rfl | hc
  ·trivial
  ·rw [List.mem_singleton.1 hc]; trivial
theorem pcopyFacts.ret (l : List Fct) (h : tFcts.size l ≤ 1048576) : pcopyFacts.Ret [.list none (facts l)] (.list (some (frs tFct l).length) (tks tFct l 0)) (frs tFct l ++ [(86, 2, l.length)]) := by
 refine pcopyFacts.ir.of rfl ?_
 rw [tFcts_size] at h
 have hfl : (facts l).length = l.length := length_rows _ _
 repeat' first
  | (conv => whnf
     first | refine Need.fin ?_)
 refine ALoop.mk Nat (fun i => ⟨[(3, .bsl 0 l.length), (9, .list none (facts l)), (10, .val (.int .i64 l.length)), (11, .val (.int .i64 i))], [.cells (.row 86 2) (part zf (tks tFct l 0) i)], frs tFct (l.take i)⟩) (fun i => i ≤ l.length) (fun i => l.length - i) ⟨0, Nat.zero_le _, ?_⟩ (fun i hi => ?_)
 ·repeat' first
   | exact trivial | refine wl_ ?_ ?_ ?_ ?_ | refine And.intro ?_ ?_ | with_reducible rfl | exact ble_ | refine AV.int_congr ?_ | refine AV.list_congr ?_ | refine AV.bsl_congr ?_ ?_ | (apply rfl)
  ·rw [hfl, Int.toNat_natCast]
  ·rw [hfl]
  ·simp only [List.nil_append, List.cons_append, List.length_cons, List.length_nil, List.take_succ_cons, List.take_zero]
   rw [part_made (xs := tks tFct l 0) (sz := 2) rfl (by decide) (by rw [length_tks, hfl, Int.toNat_natCast])]; rfl
 by_cases hi' : i < l.length
 rotate_left
 ·have hil : i = l.length := by omega
  subst hil
  have hall := part_all zf (tks tFct l 0)
  rw [length_tks] at hall
  rw [List.take_length, hall]
  repeat' first
   | (conv => whnf
      first | refine Need.mk rfl ?_ | refine Fork.decN ?_)
  conv => whnf
  refine FreezeD.flat (Freeze.mk (tks tFct l 0) _ 86 2 rfl rfl (length_tks _ _ _) (tks_sz tFct l 0) (tks_nr tFct l 0) ?_)
  repeat' first
   | (conv => whnf
      first | refine Final.mk rfl rfl)
 have hsz := fct_le hi'
 have hget := tks_get tFct 0 (fget hi')
 rw [Nat.zero_add] at hget
 repeat' first
  | (conv => whnf
     first | refine Need.mk rfl ?_ | refine Need.mk ⟨rfl, Nat.le_of_ble_eq_true rfl⟩ ?_ | refine nb_ ?_ | refine Need.finN ?_ | refine Need.mk ?_ ?_ | refine Ix.mapN (fun _ => rfl) ?_ | refine Fork.decY ?_ | refine Round.mk ?_ | refine ACall.mkFct _ _ (pcopyFact.ret _ ?_) (by repeat' first | exact SeesL.nil | refine SeesL.cons ?_ ?_ | exact SeesB.of0 (Sees0.val _) | exact SeesB.of0 (Sees0.str _) | exact SeesB.of0 (Sees0.olds _ _) | exact SeesB.of0 (Sees0.old _) | exact SeesB.of0 (Sees0.oldagg _) | exact SeesB.of0 Sees0.nil | exact Sees0.val _ | exact Sees0.str _ | exact Sees0.olds _ _ | exact Sees0.old _ | exact Sees0.oldagg _ | exact Sees0.nil | exact SeesB.of0 (Sees0.any _) | assumption | exact sees_gv _ _ _ (by assumption) (by first | assumption | exact BoxIn.last _ _ | exact BoxIn.more (BoxIn.last _ _) _) | refine SeesB.agg ?_ | refine Sees0.agg ?_ | exact SeesB.of0 (Sees0.clo SeesL.nil SeesL.nil) | exact Sees0.clo SeesL.nil SeesL.nil | exact SeesB.of0 (Sees0.list rfl) | exact Sees0.list rfl) ?_)
 ·rw [Int.toNat_natCast]; omega
 ·rw [tFct.htk, part_len (sz := 2) rfl (tks_sz tFct l 0) (by rw [length_tks]; omega), length_tks, Int.toNat_natCast]
  exact ⟨rfl, by omega⟩
 ·refine ⟨i + 1, by omega, ?_, by omega⟩
  refine ⟨?_, ?_, ?_, Nat.le_of_ble_eq_true rfl, Or.inr ⟨?_, part_inF 1 l (i + 1), trivial⟩⟩
  rotate_right
  ·exact ⟨Nat.zero_lt_one, trivial, trivial, trivial, trivial⟩
  ·repeat' first
    | exact trivial | refine And.intro ?_ ?_ | with_reducible rfl | refine AV.int_congr ?_ | refine AV.list_congr ?_ | refine AV.bsl_congr ?_ ?_
   rw [wrap64 (by omega) (by omega)]; rfl
  ·have := part_set (z := zf) (sz := 2) rfl (tks_sz tFct l 0) hget
   exact congrArg (fun c => [ABox.cells (.row 86 2) c]) this
  ·show frs tFct (l.take i) ++ tFct.fr (l.getD ((i : Int)).toNat default) = frs tFct (l.take (i + 1))
   rw [take_succ' default hi', frs_append, Int.toNat_natCast]
   simp [frs]
theorem pcopyFacts.own (l : List Fct) (h : tFcts.size l ≤ 1048576) : pcopyFacts.Own [.list none (facts l)] (fctsT l) := by
 have h1 := pcopyFacts.ret l h
 refine Ty.ownV tFcts (a := l) rfl rfl ?_
 rw [Nat.zero_add]; exact h1
open Abs
theorem pMatchFact.retB (p : VPattern) (f : Fct) (b : List VPair) (h1 : tPattern.size p ≤ 1048576) (h2 : tFct.size f ≤ 1048576) (h3 : tPairs.size b ≤ 1048576) :
 pMatchFact.RetN [.agg (oldL (tPattern.q p)), .agg (oldL (tFct.q f)), .list none (pairs b)] (.tup [.list (some 0) (pairs ((matM p f b).getD [])), .val (.bool (matM p f b).isSome)]) [(141, 2, ((matM p f b).getD []).length)] :=
 plain_retP (fun _ => rfl) (fun _ => rfl) tPair_canon ((matM_eq p f b).symm ▸ pMatchFact.own p f b h1 h2 h3)
set_option maxHeartbeats 4000000 in
theorem pBehind.own (t : VToken) (x : VCond) (l : List Fct) (hk : x.1 = 1) (hx : tCond.size x ≤ 1048576) (h : tFcts.size l ≤ 1048576) (hl24 : l.length ≤ 24) (hsz : tFcts.size t.1 ≤ 180 ∧ tPairs.size t.2 ≤ 108) :
 ptokensBehind.OwnN [.agg (oldL (tToken.q t)), .agg (oldL (tCond.q x)), .list none (facts l)] (tokT (hasF l x.2.1 t)) := by
 refine Abs.IrAt.ownP ptokensBehind.ir rfl ?_
 have hp := tCond_pat x
 rw [tFcts_size] at h
 repeat' first
  | contradiction
  | (conv => whnf
     first | refine Need.mk rfl ?_ | refine Fork.bne (fun _ => ?_) (fun _ => ?_))
 refine ALoop.mk (Nat × Fr × List (List AV)) (fun k => ⟨[(3, .bptr 0 0), (4, .bptr 1 0), (7, .list (some 0) k.2.2), (26, .list none (facts l)), (27, .val (.int .i64 l.length)), (28, .val (.int .i64 k.1))], [.cells .var (oldL (tToken.q t)), .cells .var (oldL (tCond.q x))], k.2.1⟩)
  (fun k => k.1 ≤ l.length ∧ ∃ us, TA k.2.1 (hasF (l.take k.1) x.2.1 t) k.2.2 us) (fun k => l.length - k.1) ⟨(0, [(90, 2, 0)], []), ⟨Nat.zero_le _, [], AccO.nil rfl⟩, ?_⟩ (fun k hk2 => ?_)
 ·repeat' first
   | exact trivial | refine wl_ ?_ ?_ ?_ ?_ | refine And.intro ?_ ?_ | with_reducible rfl | exact ble_ | refine fr1 ?_ | refine AV.int_congr ?_ | refine AV.list_congr ?_ | (apply rfl)
  simp
 obtain ⟨k, G, zs⟩ := k
 obtain ⟨hk2, vs, hB⟩ := hk2
 simp only at hk2 hB ⊢
 have hfl : (facts l).length = l.length := length_rows _ _
 have hBk := hB.hk
 have hBl := hB.hl
 have hle2 := hasF_le l x.2.1 t k
 by_cases hk' : k < l.length
 rotate_left
 ·have e : k = l.length := by omega
  subst e
  rw [List.take_length] at hB
  repeat' first
   | (conv => whnf
      first | refine Need.mk rfl ?_ | refine Fork.decN ?_)
  exact hB.final
 have hf1 : tFct.size (l.getD k default) ≤ 1048576 := by have := fct_le hk'; omega
 have hm := pMatchFact.retB x.2.1 (l.getD k default) t.2 (by omega) hf1 (by omega)
 have hfs := tFcts_canon.ret rfl rfl (pcopyFacts.own t.1 (by omega))
 have hfc := pcopyFact.ret (l.getD k default) hf1
 cases hmm : matM x.2.1 (l.getD k default) t.2 with
 | none =>
  rw [hmm] at hm
  repeat' first
   | contradiction
   | (conv => whnf
      first | refine Need.mk rfl ?_ | refine Need.mk ⟨rfl, Nat.le_of_ble_eq_true rfl⟩ ?_ | refine nb_ ?_ | refine Ix.mapN (fun _ => rfl) ?_ | refine Fork.decY ?_ | refine Fork.mk (fun _ => ?_) (fun _ => ?_) | refine Round.mk ?_ | refine ACall.mkTB tPair _ _ _ _ (hm) (by repeat' first | exact SeesL.nil | refine SeesL.cons ?_ ?_ | exact SeesB.of0 (Sees0.val _) | exact SeesB.of0 (Sees0.str _) | exact SeesB.of0 (Sees0.olds _ _) | exact SeesB.of0 (Sees0.old _) | exact SeesB.of0 (Sees0.oldagg _) | exact SeesB.of0 Sees0.nil | exact Sees0.val _ | exact Sees0.str _ | exact Sees0.olds _ _ | exact Sees0.old _ | exact Sees0.oldagg _ | exact Sees0.nil | exact SeesB.of0 (Sees0.any _) | assumption | exact sees_gv _ _ _ (by assumption) (by first | assumption | exact BoxIn.last _ _ | exact BoxIn.more (BoxIn.last _ _) _) | refine SeesB.agg ?_ | refine Sees0.agg ?_ | exact SeesB.of0 (Sees0.clo SeesL.nil SeesL.nil) | exact Sees0.clo SeesL.nil SeesL.nil | exact SeesB.of0 (Sees0.list rfl) | exact Sees0.list rfl) ?_)
  refine ⟨(k + 1, G ++ [(141, 2, 0)], zs), ⟨by simp only; omega, vs, by rw [hasF_no hk' hmm]; exact hB.grow _⟩, ?_, by simp only; omega⟩
  repeat' first
   | exact trivial | refine wr_ ?_ ?_ ?_ ?_ | refine And.intro ?_ ?_ | with_reducible rfl | exact ble_ | refine AV.int_congr ?_ | refine AV.list_congr ?_ | (apply rfl)
  rw [wrap64 (by omega) (by omega)]; rfl
 | some b =>
  rw [hmm] at hm
  obtain ⟨us', hS⟩ := tok_step hB t.1 (l.getD k default) b (c' := (hasF (l.take k) x.2.1 t).length + 1) rfl rfl rfl rfl rfl
  rw [← hasF_yes hk' hmm] at hS
  have hfsz : t.1.length ≤ 180 := by have := hsz.1; rw [tFcts_size] at this; omega
  have hG1 : (G ++ [(141, 2, ((some b).getD []).length)]).length = G.length + 1 := by simp
  have hG2 : (G ++ [(141, 2, ((some b).getD []).length)] ++ tFcts.fr t.1).length = G.length + 1 + (frs tFct t.1).length + 1 := by
   rw [show tFcts.fr t.1 = frs tFct t.1 ++ [(86, tFct.sz, t.1.length)] from rfl]; simp only [List.length_append, List.length_singleton]; omega
  obtain ⟨F3, hF3⟩ := head_cons (tok_head hB t.1 (l.getD k default) b)
  rw [hF3] at hS
  repeat' first
   | contradiction
   | (conv => whnf
      first | refine Need.mk rfl ?_ | refine Need.mk ⟨rfl, Nat.le_of_ble_eq_true rfl⟩ ?_ | refine nb_ ?_ | refine Need.finN ?_ | refine Ix.mapN (fun _ => rfl) ?_ | refine Fork.decY ?_ | refine Fork.mk (fun _ => ?_) (fun _ => ?_) | refine Lit.read rfl ?_ | refine ACall.mkTB tPair _ _ _ _ (hm) (by repeat' first | exact SeesL.nil | refine SeesL.cons ?_ ?_ | exact SeesB.of0 (Sees0.val _) | exact SeesB.of0 (Sees0.str _) | exact SeesB.of0 (Sees0.olds _ _) | exact SeesB.of0 (Sees0.old _) | exact SeesB.of0 (Sees0.oldagg _) | exact SeesB.of0 Sees0.nil | exact Sees0.val _ | exact Sees0.str _ | exact Sees0.olds _ _ | exact Sees0.old _ | exact Sees0.oldagg _ | exact Sees0.nil | exact SeesB.of0 (Sees0.any _) | assumption | exact sees_gv _ _ _ (by assumption) (by first | assumption | exact BoxIn.last _ _ | exact BoxIn.more (BoxIn.last _ _) _) | refine SeesB.agg ?_ | refine Sees0.agg ?_ | exact SeesB.of0 (Sees0.clo SeesL.nil SeesL.nil) | exact Sees0.clo SeesL.nil SeesL.nil | exact SeesB.of0 (Sees0.list rfl) | exact Sees0.list rfl) ?_ | refine ACall.mkFcts _ _ (Ret.weak (hfs)) (by repeat' first | exact SeesL.nil | refine SeesL.cons ?_ ?_ | exact SeesB.of0 (Sees0.val _) | exact SeesB.of0 (Sees0.str _) | exact SeesB.of0 (Sees0.olds _ _) | exact SeesB.of0 (Sees0.old _) | exact SeesB.of0 (Sees0.oldagg _) | exact SeesB.of0 Sees0.nil | exact Sees0.val _ | exact Sees0.str _ | exact Sees0.olds _ _ | exact Sees0.old _ | exact Sees0.oldagg _ | exact Sees0.nil | exact SeesB.of0 (Sees0.any _) | assumption | exact sees_gv _ _ _ (by assumption) (by first | assumption | exact BoxIn.last _ _ | exact BoxIn.more (BoxIn.last _ _) _) | refine SeesB.agg ?_ | refine Sees0.agg ?_ | exact SeesB.of0 (Sees0.clo SeesL.nil SeesL.nil) | exact Sees0.clo SeesL.nil SeesL.nil | exact SeesB.of0 (Sees0.list rfl) | exact Sees0.list rfl) ?_ | refine ACall.mkFct _ _ (Ret.weak (hfc)) (by repeat' first | exact SeesL.nil | refine SeesL.cons ?_ ?_ | exact SeesB.of0 (Sees0.val _) | exact SeesB.of0 (Sees0.str _) | exact SeesB.of0 (Sees0.olds _ _) | exact SeesB.of0 (Sees0.old _) | exact SeesB.of0 (Sees0.oldagg _) | exact SeesB.of0 Sees0.nil | exact Sees0.val _ | exact Sees0.str _ | exact Sees0.olds _ _ | exact Sees0.old _ | exact Sees0.oldagg _ | exact Sees0.nil | exact SeesB.of0 (Sees0.any _) | assumption | exact sees_gv _ _ _ (by assumption) (by first | assumption | exact BoxIn.last _ _ | exact BoxIn.more (BoxIn.last _ _) _) | refine SeesB.agg ?_ | refine Sees0.agg ?_ | exact SeesB.of0 (Sees0.clo SeesL.nil SeesL.nil) | exact Sees0.clo SeesL.nil SeesL.nil | exact SeesB.of0 (Sees0.list rfl) | exact Sees0.list rfl) ?_)
  refine appK_to (F' := (90, 2, zs.length) :: F3) ?_ ?_ ?_ ?_ ?_
  ·rw [length_tks, List.append_assoc, List.getElem?_append_right (by omega), List.getElem?_append_left (by simp [Ty.list, tFcts]), Nat.add_sub_cancel_left]
   show (frs tFct t.1 ++ [_])[_]? = _
   rw [List.getElem?_append_right (Nat.le_refl _), Nat.sub_self]; rfl
  ·intro c hc; rw [List.mem_singleton.1 hc]; exact tFct.htk _ _
  ·rw [List.length_singleton, length_tks]; omega
  ·rw [← hF3, hG1, length_tks]; rfl
  rw [hG1, hG2]
  repeat' first
   | (conv => whnf
      first | refine Need.mk rfl ?_ | refine Need.mk ?_ ?_ | refine Round.mk ?_ | refine Lit.read rfl ?_)
  ·intro c hc; rw [List.mem_singleton.1 hc]; rfl
  ·simp only [List.length_singleton]; omega
  ·refine ⟨(k + 1, _, _), ⟨by simp only; omega, us', hS⟩, ?_, by simp only; omega⟩
   repeat' first
    | exact trivial | refine wr_ ?_ ?_ ?_ ?_ | refine And.intro ?_ ?_ | with_reducible rfl | exact ble_ | refine AV.int_congr ?_ | refine AV.list_congr ?_ | (apply rfl)
   ·rw [wrap64 (by omega) (by omega)]; rfl
   ·rw [← hBl]; rfl
theorem pBehind.alias (t : VToken) (x : VCond) (l : List Fct) (hk : x.1 ≠ 1) (hx : tCond.size x ≤ 1048576) (h : tFcts.size l ≤ 1048576) (hsz : tFcts.size t.1 ≤ 180 ∧ tPairs.size t.2 ≤ 108) (us : List Value) (hus : us.length = 2) :
 ptokensBehind.RetN [.agg (tags us (oldL (tToken.q t))), .agg (oldL (tCond.q x)), .list none (facts l)] (.list (some 0) (if holdsCF x t.2 l then [tags us (oldL (tToken.q t))] else [])) [(90, 2, if holdsCF x t.2 l then 1 else 0)] := by
 obtain ⟨u, v, rfl⟩ : ∃ u v, us = [u, v] := by
  match us, hus with
  | [u, v], _ => exact ⟨u, v, rfl⟩
 refine ptokensBehind.ir.of rfl ?_
 have hc := pHoldsCond.ret x t.2 l hx (by omega) h
 cases hh : holdsCF x t.2 l with
 | false =>
  rw [hh] at hc
  repeat' first
   | contradiction
   | (conv => whnf
      first | refine Need.mk rfl ?_ | refine nb_ ?_ | refine Fork.bne (fun _ => ?_) (fun _ => ?_))
  refine ACall.scal _ _ hc rfl (SeesL.cons (SeesB.of0 (Sees0.oldagg (tCond.q x))) (SeesL.cons (SeesB.of0 (Sees0.tag (Sees0.olds _ _))) (SeesL.cons (SeesB.of0 (Sees0.olds _ _)) SeesL.nil))) ?_
  repeat' first
   | contradiction
   | (conv => whnf
      first | refine Fork.mk (fun _ => ?_) (fun _ => ?_) | refine Final.mk rfl rfl)
 | true =>
  rw [hh] at hc
  repeat' first
   | contradiction
   | (conv => whnf
      first | refine Need.mk rfl ?_ | refine nb_ ?_ | refine Fork.bne (fun _ => ?_) (fun _ => ?_))
  refine ACall.scal _ _ hc rfl (SeesL.cons (SeesB.of0 (Sees0.oldagg (tCond.q x))) (SeesL.cons (SeesB.of0 (Sees0.tag (Sees0.olds _ _))) (SeesL.cons (SeesB.of0 (Sees0.olds _ _)) SeesL.nil))) ?_
  repeat' first
   | contradiction
   | (conv => whnf
      first | refine Need.mk rfl ?_ | refine nb_ ?_ | refine Need.mk ?_ ?_ | refine Fork.mk (fun _ => ?_) (fun _ => ?_) | refine Lit.read rfl ?_ | refine Final.mk rfl rfl)
  ·intro c hc; rw [List.mem_singleton.1 hc]; rfl
  ·simp
theorem sees_erase : ∀ cs : List AV, SeesL Sees0 cs (mapTL noTok cs)
 | [] => .nil
 | c :: cs => .cons (Sees0.erase rfl) (sees_erase cs)
theorem tk_sees {α : Type} (T : Ty α) (a : α) (m : Nat) : SeesL Sees0 (T.tk a m) (oldL (T.q a)) := by
 rw [← T.hse a m]; exact sees_erase _
theorem subr_tok (n : Nat) (us : List Value) (cs zs : List AV) (h : us.length = cs.length) (hz : zs.length = cs.length) (b : Bool) : SubR n us cs (.list (some 0) (if b then [tags us zs] else [])) (.list (some (0 + n)) (if b then [cs] else [])) := by
 cases b with
 | false => exact .list (some 0) [] [] rfl (by simp) (by simp)
 | true =>
  refine .list (some 0) [tags us zs] [cs] rfl (fun i y z hy hz' => ?_) (fun i j y z a b hy hz' ha hb => ?_)
  ·cases i with
   | zero => simp at hy hz'; subst hy; subst hz'; rw [tags, List.length_zipWith]; omega
   | succ i => simp at hy
  ·cases i with
   | zero =>
    simp at hy hz'; subst hy; subst hz'
    rw [tags, List.getElem?_zipWith] at ha
    cases hu : us[j]? with
    | none => rw [hu] at ha; cases zs[j]? <;> cases ha
    | some u =>
     cases hzz : zs[j]? with
     | none => rw [hu, hzz] at ha; cases ha
     | some w => rw [hu, hzz] at ha; cases ha; exact .tag j u w b hu hb
   | succ i => simp at hy
theorem frs_at {α : Type} (T : Ty α) {src : List α} {i : Nat} {a : α} (hi : src[i]? = some a) {k : Nat} {y : Nat × Nat × Nat} (hk : (T.fr a)[k]? = some y) : (frs T src)[(frs T (src.take i)).length + k]? = some y := by
 have hlt := getElem?_lt hi
 have e : src = src.take i ++ a :: src.drop (i + 1) := by
  have h1 := List.drop_eq_getElem_cons hlt
  have h2 : src[i] = a := by rw [List.getElem?_eq_getElem hlt] at hi; exact Option.some.inj hi
  rw [h2] at h1; rw [← h1, List.take_append_drop]
 have h3 : frs T src = frs T (src.take i) ++ (T.fr a ++ frs T (src.drop (i + 1))) := by
  have h4 : frs T src = frs T (src.take i ++ a :: src.drop (i + 1)) := by rw [← e]
  rw [h4, frs_append]; rfl
 rw [h3, List.getElem?_append_right (by omega), Nat.add_sub_cancel_left, List.getElem?_append_left (getElem?_lt hk)]
 exact hk
theorem tConds_take (cs : List VCond) (n : Nat) : tConds.size (cs.take n) ≤ tConds.size cs := by
 rw [tConds_sz, tConds_sz, List.length_take]
 have := listSize_take_le tCond cs n
 omega
set_option maxHeartbeats 4000000 in
theorem ptokensOfConds.own (l : List Fct) (h : tFcts.size l ≤ 1048576) (hl : ∀ f ∈ l, isFactF f = true) (hl24 : l.length ≤ 24) : ∀ (n : Nat) (cs : List VCond), cs.length = n → n ≤ 4 → tConds.size cs ≤ 1048576 →
 ptokensOfConds.OwnN [.list none (rows tCond cs), .list none (facts l)] (tokT (toksF l cs)) := by
 intro n
 induction n with
 | zero =>
  intro cs hn _ _
  have e : cs = [] := List.eq_nil_of_length_eq_zero hn
  subst e
  refine Abs.IrAt.ownP ptokensOfConds.ir rfl ?_
  have hw : IntKind.i64.wrap ((([] : List VCond).length : Int) - 1) = -1 := wrap64 (by simp) (by simp)
  repeat' first
   | (conv => whnf
      first | refine Need.mk rfl ?_ | refine Fork.decY ?_)
  rw [toksF_nil]
  exact nil_acc.final
 | succ n ih =>
  intro cs hn hn4 hc
  refine Abs.IrAt.ownP ptokensOfConds.ir rfl ?_
  have hrl : (rows tCond cs).length = cs.length := length_rows _ _
  have hw : IntKind.i64.wrap (((rows tCond cs).length : Int) - 1) = (n : Int) := by rw [hrl, hn, wrap64 (by omega) (by omega)]; omega
  have hown := ih (cs.take n) (by rw [List.length_take]; omega) (by omega) (Nat.le_trans (tConds_take cs n) hc)
  have hret := tTokens_canon.ret rfl rfl hown
  have hw' : IntKind.i64.wrap ((cs.length : Int) - 1) = (n : Int) := by rw [← hrl]; exact hw
  repeat' first
   | (conv => whnf
      first | refine Need.mk rfl ?_ | refine Cut.map (fun _ => rfl) ?_ ?_ | refine Fork.decN ?_)
  ·intro _; rw [hw]; omega
  conv => whnf
  refine ACall.mk_TokenS _ _ hret (SeesL.cons ?_ (SeesL.cons ?_ SeesL.nil)) ?_
  ·rw [hw, Int.toNat_natCast]; exact @Sees0.olds _ _
  ·exact @Sees0.olds _ _
  skip
  generalize hsrc : toksF l (cs.take n) = src
  have hg : ∀ t ∈ src, GoodT l 4 t := fun t ht => (toksF_good l cs n (by omega) t (hsrc ▸ ht)).mono (by omega)
  have hsl : src.length ≤ 331776 := hsrc ▸ toksF_len4 hl24 (by omega) n
  have hfin : toksF l cs = stepF l src (cs.getD n default) := by
   rw [← hsrc, ← toksF_succ l (by omega), List.take_of_length_le (by omega)]
  generalize hx0 : cs.getD n default = x at hfin
  have hxs : tCond.size x ≤ 1048576 := by
   have := tCond_le (l := cs) (i := n) (by omega)
   rw [hx0] at this; rw [tConds_sz] at hc; omega
  refine ALoop.mk (Nat × Fr × List (List AV)) (fun i => ⟨[(0, .list none (rows tCond cs)), (1, .list none (facts l)), (5, .val (.int .i64 n)), (6, .list (some 0) i.2.2), (21, .list (some (1 + (frs tToken src).length)) (tks tToken src 1)), (22, .val (.int .i64 src.length)), (23, .val (.int .i64 i.1))], [], i.2.1⟩)
   (fun i => i.1 ≤ src.length ∧ (∀ (j : Nat) y, (frs tToken src)[j]? = some y → i.2.1[1 + j]? = some y) ∧ 1 + (frs tToken src).length < i.2.1.length ∧ ∃ us, TA i.2.1 (stepF l (src.take i.1) x) i.2.2 us ∧ ∀ u ∈ us, u < 1 + (frs tToken (src.take i.1)).length ∨ 1 + (frs tToken src).length < u)
   (fun i => src.length - i.1) ⟨(0, (90, 2, 0) :: tTokens.fr src, []), ⟨Nat.zero_le _, fun j y hj => ?_, ?_, [], AccO.nil rfl, by simp⟩, ?_⟩ (fun i hi => ?_)
  ·rw [Nat.add_comm, List.getElem?_cons_succ]
   show (frs tToken src ++ [_])[j]? = _
   rw [List.getElem?_append_left (getElem?_lt hj)]; exact hj
  ·show 1 + _ < ((90, 2, 0) :: (frs tToken src ++ [(90, tToken.sz, src.length)])).length
   simp; omega
  ·repeat' first
    | exact trivial | refine wl_ ?_ ?_ ?_ ?_ | refine And.intro ?_ ?_ | with_reducible rfl | exact ble_ | refine AV.int_congr ?_ | refine AV.list_congr ?_ | (apply rfl)
   ·exact hw
   ·rw [length_tks]
  obtain ⟨i, F, ys⟩ := i
  obtain ⟨hi, hfr, hFl, us, hA, hus⟩ := hi
  simp only at hi hfr hFl hA hus ⊢
  have htl : (tks tToken src 1).length = src.length := length_tks _ _ _
  obtain ⟨F1, rfl⟩ := head_cons hA.hk
  rw [← hA.hl] at *
  by_cases hi' : i < src.length
  rotate_left
  ·have e : i = src.length := by omega
   subst e
   rw [List.take_length, ← hfin] at hA
   repeat' first
    | (conv => whnf
       first | refine Need.mk rfl ?_ | refine Fork.decN ?_)
   exact hA.final
  have hgt := hg _ (tget hi')
  have hsz := goodT_size hl hgt (by omega)
  have hle := stepF_le hl24 (x := x) src i
  have hAl := hA.hl
  generalize ha0 : src.getD i default = a at hgt hsz
  have hai : src[i]? = some a := by rw [← ha0]; exact tToken_get hi'
  obtain ⟨m, hm⟩ : ∃ m, m = 1 + (frs tToken (src.take i)).length := ⟨_, rfl⟩
  have hget : (tks tToken src 1)[i]? = some (tToken.tk a m) := by rw [hm]; exact tks_get tToken 1 hai
  have hfs : frs tToken (src.take (i + 1)) = frs tToken (src.take i) ++ tToken.fr a := by
   rw [take_succ' default hi', ha0, frs_append]; simp [frs]
  have hfl : (frs tToken (src.take (i + 1))).length ≤ (frs tToken src).length := by
   have : src = src.take (i + 1) ++ src.drop (i + 1) := (List.take_append_drop _ _).symm
   have h2 : (frs tToken src).length = (frs tToken (src.take (i + 1)) ++ frs tToken (src.drop (i + 1))).length := by rw [← frs_append, ← this]
   rw [List.length_append] at h2; omega
  rw [hfs, List.length_append] at hfl
  have hstep := stepF_take (l := l) (x := x) hi'
  rw [ha0] at hstep
  have hx0' : cs.getD ((n : Nat) : Int).toNat default = x := by rw [Int.toNat_natCast]; exact hx0
  have hix : (0 : Int) ≤ (i : Int) ∧ (tks tToken src 1)[((i : Nat) : Int).toNat]? = some (tToken.tk a m) ∧ (tToken.tk a m).length = 2 := ⟨by omega, by rw [Int.toNat_natCast]; exact hget, rfl⟩
  by_cases hk : x.1 = 1
  ·have hb := tTokens_canon.ret rfl rfl (pBehind.own a x l hk hxs h hl24 hsz)
   have hle2 := hasF_le l x.2.1 a l.length
   rw [List.take_length] at hle2
   repeat' first
    | (conv => whnf
       first | refine Need.mk rfl ?_ | refine Need.mk ⟨rfl, Nat.le_of_ble_eq_true rfl⟩ ?_ | refine nb_ ?_ | refine Ix.mk _ (fun _ => hix) ?_ | refine Ix.mapN (fun _ => rfl) ?_ | refine Fork.decY ?_)
   conv => whnf
   refine ACall.mk_TokenS _ _ hb (SeesL.cons ?_ (SeesL.cons ?_ (SeesL.cons ?_ SeesL.nil))) ?_
   ·exact @Sees0.aggs _ _ (tk_sees tToken a m)
   ·rw [hx0']; exact @Sees0.oldagg (tCond.q x)
   ·exact @Sees0.olds _ _
   repeat' first
    | (conv => whnf
       first | refine Need.mk rfl ?_ | refine Need.mk ?_ ?_ | refine Round.mk ?_)
   ·exact tks_sz tToken _ _
   ·rw [length_tks]; omega
   generalize hnew : hasF l x.2.1 a = new at hle2
   rw [nextF_has hk, hnew] at hstep
   generalize hG : (90, tToken.sz, ys.length) :: F1 = G at *
   have hGp : 0 < G.length := by rw [← hG]; simp
   obtain ⟨vs, o1, o2, o3⟩ := tksOwn tToken new (n := G.length) (F := G ++ tTokens.fr new) (fun q y hq => by
    rw [List.getElem?_append_right (by omega), Nat.add_sub_cancel_left, show tTokens.fr new = frs tToken new ++ [(90, tToken.sz, new.length)] from rfl, List.getElem?_append_left (getElem?_lt hq)]; exact hq)
   have hA2 := (hA.grow (tTokens.fr new)).app (m := ys.length + (tks tToken new G.length).length) new (tks tToken new G.length) vs (by rw [hAl, length_tks]) (length_tks _ _ _) (tks_sz _ _ _) o1 o2
    (fun j hj => ⟨by have := (o3 j hj).1; omega, fun hm => by have := hA.own.lt j hm; have := (o3 j hj).1; omega⟩)
   rw [← hstep] at hA2
   refine ⟨(i + 1, _, _), ⟨by simp only; omega, fun j y hj => ?_, ?_, us ++ vs, hA2, fun u hu => ?_⟩, ?_, by simp only; omega⟩
   ·have := getElem?_lt hj
    rw [List.getElem?_set, if_neg (by omega), List.getElem?_append_left (by omega)]; exact hfr j y hj
   ·rw [List.length_set, List.length_append]; omega
   ·rw [hfs, List.length_append]
    rcases List.mem_append.1 hu with hu | hu
    ·rcases hus u hu with h | h
     ·exact .inl (by omega)
     ·exact .inr h
    ·have := (o3 u hu).1; exact .inr (by omega)
   ·repeat' first
     | exact trivial | refine wr_ ?_ ?_ ?_ ?_ | refine And.intro ?_ ?_ | with_reducible rfl | exact ble_ | refine AV.int_congr ?_ | refine AV.list_congr ?_ | (apply rfl)
    rw [wrap64 (by omega) (by omega)]; rfl
  ·have hb : ∀ us : List Value, us.length = 2 → _ := pBehind.alias a x l hk hxs h hsz
   repeat' first
    | (conv => whnf
       first | refine Need.mk rfl ?_ | refine Need.mk ⟨rfl, Nat.le_of_ble_eq_true rfl⟩ ?_ | refine nb_ ?_ | refine Ix.mk _ (fun _ => hix) ?_ | refine Ix.mapN (fun _ => rfl) ?_ | refine Fork.decY ?_)
   conv => whnf
   refine ACall.alias [] [.agg (oldL (tCond.q (cs.getD ((n : Nat) : Int).toNat default))), .list none (facts l)] [] [.agg (oldL (tCond.q x)), .list none (facts l)] (tToken.tk a m) (oldL (tToken.q a)) _ (.list (some (0 + ((90, tToken.sz, ys.length) :: F1).length)) (if holdsCF x a.2 l then [tToken.tk a m] else [])) _ rfl (tToken.hnr a m) .nil (SeesL.cons ?_ (SeesL.cons ?_ SeesL.nil)) (tk_sees tToken a m) hb (fun us hu => subr_tok _ us (tToken.tk a m) (oldL (tToken.q a)) hu rfl _) ?_
   ·rw [hx0']; exact @Sees0.oldagg (tCond.q x)
   ·exact @Sees0.olds _ _
   cases hh : holdsCF x a.2 l with
   | false =>
    have hnx : nextF l x a = [] := by rw [nextF, if_neg hk, hh, if_neg (by simp)]
    rw [hnx] at hstep
    repeat' first
     | (conv => whnf
        first | refine Need.mk rfl ?_ | refine Need.mk ?_ ?_ | refine Round.mk ?_)
    ·intro c hc; simp at hc
    ·simp only [Bool.false_eq_true, if_false, List.length_nil]; omega
    generalize hG : (90, tToken.sz, ys.length) :: F1 = G at *
    have hGp : 0 < G.length := by rw [← hG]; simp
    have hA2 := (hA.grow [(90, 2, 0)]).app (m := ys.length + 0) [] [] [] (by rw [hAl]; rfl) rfl (by simp) .nil List.nodup_nil (by simp)
    rw [← hstep] at hA2
    refine ⟨(i + 1, _, _), ⟨by simp only; omega, fun j y hj => ?_, ?_, us ++ [], hA2, fun u hu => ?_⟩, ?_, by simp only; omega⟩
    ·have := getElem?_lt hj
     rw [List.getElem?_set, if_neg (by omega), List.getElem?_append_left (by omega)]; exact hfr j y hj
    ·rw [List.length_set, List.length_append]; omega
    ·rw [hfs, List.length_append]
     rw [List.append_nil] at hu
     rcases hus u hu with h | h
     ·exact .inl (by omega)
     ·exact .inr h
    ·repeat' first
      | exact trivial | refine wr_ ?_ ?_ ?_ ?_ | refine And.intro ?_ ?_ | with_reducible rfl | exact ble_ | refine AV.int_congr ?_ | refine AV.list_congr ?_ | (apply rfl)
     rw [wrap64 (by omega) (by omega)]; rfl
   | true =>
    have hnx : nextF l x a = [a] := by rw [nextF, if_neg hk, hh, if_pos rfl]
    rw [hnx] at hstep
    repeat' first
     | (conv => whnf
        first | refine Need.mk rfl ?_ | refine Need.mk ?_ ?_ | refine Round.mk ?_)
    ·intro c hc; rw [if_pos rfl] at hc; rw [List.mem_singleton.1 hc]; rfl
    ·simp only [if_true, List.length_singleton]; omega
    generalize hG : (90, tToken.sz, ys.length) :: F1 = G at *
    have hGp : 0 < G.length := by rw [← hG]; simp
    obtain ⟨vs, o1, o2, o3⟩ := tToken.tkOwn a (n := m) (F := G ++ [(90, 2, 1)]) (fun q y hq => by
     have h1 := hfr _ _ (frs_at tToken hai hq)
     have h2 := getElem?_lt hq
     rw [List.getElem?_append_left (by omega), hm, Nat.add_assoc]; exact h1)
    have hA2 := (hA.grow [(90, 2, 1)]).snoc (m := ys.length + 1) a (tToken.tk a m) vs (by rw [hAl]) o1 o2
     (fun j hj => ⟨by have := (o3 j hj).1; omega, fun hm' => by have := o3 j hj; rcases hus j hm' with h | h <;> omega⟩)
    rw [← hstep] at hA2
    refine ⟨(i + 1, _, _), ⟨by simp only; omega, fun j y hj => ?_, ?_, us ++ vs, hA2, fun u hu => ?_⟩, ?_, by simp only; omega⟩
    ·have := getElem?_lt hj
     rw [List.getElem?_set, if_neg (by omega), List.getElem?_append_left (by omega)]; exact hfr j y hj
    ·rw [List.length_set, List.length_append]; omega
    ·rw [hfs, List.length_append]
     rcases List.mem_append.1 hu with hu | hu
     ·rcases hus u hu with h | h
      ·exact .inl (by omega)
      ·exact .inr h
     ·have := (o3 u hu).2; exact .inl (by omega)
    ·repeat' first
      | exact trivial | refine wr_ ?_ ?_ ?_ ?_ | refine And.intro ?_ ?_ | with_reducible rfl | exact ble_ | refine AV.int_congr ?_ | refine AV.list_congr ?_ | (apply rfl)
     rw [wrap64 (by omega) (by omega)]; rfl
open Abs
def sIsAction.code : ACode := (q_ (r_ [s 1 (.box (t 0)), s 2 mf_]) (q_ (q_ (r_ [s 3 (f_ 0 1), s 4 (l_ 3)]) (.block 0 (q_ (q_ (r_ [s 6 (.bin .eql (t 4) (i_ 1)), v_ 5 6]) (.cond (t 5) .skip (r_ [s 7 (.bin .eql (t 4) (i_ 2)), v_ 5 7]))) (.cond (t 5) (q_ (r_ [s 8 (f_ 1 1), s 9 (a_ 2 8), s 10 (.call 122 [t 9]), v_ 2 10]) .ret) (q_ (r_ [s 12 (.bin .eql (t 4) (i_ 3)), v_ 11 12]) (.cond (t 11) (q_ (r_ [s 13 (f_ 1 1), s 14 (f_ 0 13), s 15 (l_ 14), s 16 (.bin .eql (t 15) (.const (.string (.mk #[])))), v_ 17 16, g 17 true 18 (f_ 1 1), g 17 true 19 (f_ 1 18), g 17 true 20 (l_ 19), g 17 true 21 (.len false (t 20)), g 17 true 22 (.bin .eql (t 21) (i_ 0)), s 23 (.and (t 17) (t 22)), v_ 2 23]) .ret) .skip)))))) (q_ (r_ [s 2 mf_]) .ret)))
theorem sIsAction.ir : IrAt Tryz.prog 88 sIsAction.code [0, 1, 2, 4, 5] [.tmp 2] Tryz.f88.ntmps := ir_ Tryz.func88
abbrev sIsAction.Ret (args : List AV) (r : AV) (frs : Fr) : Prop := Abs.Ret true Tryz.prog 88 args r frs
def pIsAction.code : ACode := (q_ (r_ [s 1 (.box (t 0)), s 2 mf_]) (q_ (q_ (r_ [s 3 (f_ 0 1), s 4 (l_ 3)]) (.block 0 (q_ (q_ (r_ [s 6 (.bin .eql (t 4) (i_ 1)), v_ 5 6]) (.cond (t 5) .skip (r_ [s 7 (.bin .eql (t 4) (i_ 2)), v_ 5 7]))) (.cond (t 5) (q_ (r_ [s 8 (f_ 1 1), s 9 (a_ 2 8), s 10 (.call 168 [t 9]), v_ 2 10]) .ret) (q_ (r_ [s 12 (.bin .eql (t 4) (i_ 3)), v_ 11 12]) (.cond (t 11) (q_ (r_ [s 13 (f_ 1 1), s 14 (a_ 2 13), s 15 (.build [(.string (.mk (.mk []))), (.slice none 0 0)] [] []), s 16 (.call 170 [t 14, t 15]), v_ 2 16]) .ret) .skip)))))) (q_ (r_ [s 2 mf_]) .ret)))
theorem pIsAction.ir : IrAt Tryz.prog 138 pIsAction.code [0, 1, 2, 4, 5] [.tmp 2] Tryz.f138.ntmps := ir_ Tryz.func138
abbrev pIsAction.Ret (args : List AV) (r : AV) (frs : Fr) : Prop := Abs.Ret true Tryz.prog 138 args r frs
def sBoundVars.code : ACode := (q_ (r_ [s 2 (.box (t 0)), s 4 (.mv (.const (.slice none 0 0)))]) (q_ (r_ [s 9 (.bslice 9 1 true []), v_ 5 9]) (q_ (q_ (r_ [s 6 (.mv (i_ 0))]) (.block 0 (.loop (q_ (q_ (r_ [v_ 10 6, s 11 (f_ 2 2), s 12 (l_ 11), s 13 (.len false (t 12)), s 14 (.bin .lss (t 10) (t 13)), v_ 15 14, g 15 true 16 (.mv (t 6)), g 15 true 17 (.mv (t 1)), g 15 true 18 (.bin .lss (t 16) (t 17)), s 19 (.and (t 15) (t 18))]) (.cond (t 19) .skip (.exit 0))) (q_ (.block 1 (q_ (r_ [s 22 (f_ 2 2), s 23 (l_ 22), v_ 24 6, s 25 (.iadr 5 (t 23) (t 24)), s 26 (f_ 0 25), s 27 (l_ 26), s 28 (.bin .eql (t 27) (i_ 1))]) (.cond (t 28) (q_ (r_ [s 29 (f_ 2 2), s 30 (l_ 29), v_ 31 6, s 32 (.iadr 5 (t 30) (t 31)), s 33 (f_ 1 32), s 34 (a_ 2 33), s 35 (.call 89 [t 34]), v_ 7 35]) (q_ (r_ [s 8 (.mv (i_ 0))]) (.block 2 (.loop (q_ (q_ (r_ [v_ 36 8, v_ 37 7, s 38 (.len false (t 37)), s 39 (.bin .lss (t 36) (t 38))]) (.cond (t 39) .skip (.exit 2))) (q_ (.block 3 (r_ [v_ 42 5, v_ 43 7, v_ 44 8, s 45 (.iadr 1 (t 43) (t 44)), s 46 (l_ 45), s 47 (.call 121 [t 42, t 46]), v_ 5 47])) (r_ [v_ 40 8, s 41 (.bin .add (t 40) (i_ 1)), v_ 8 41]))))))) .skip))) (r_ [v_ 20 6, s 21 (.bin .add (t 20) (i_ 1)), v_ 6 21])))))) (q_ (r_ [v_ 48 5, v_ 4 48]) .ret))))
theorem sBoundVars.ir : IrAt Tryz.prog 82 sBoundVars.code [0, 1, 2, 4, 5, 6, 7, 8] [.tmp 4] Tryz.f82.ntmps := ir_ Tryz.func82
abbrev sBoundVars.Own (args : List AV) (x : Tr) : Prop := Abs.Own true Tryz.prog 82 args x
def pBoundVars.code : ACode := (q_ (r_ [s 2 (.box (t 0)), s 4 (.mv (.const (.slice none 0 0)))]) (q_ (r_ [s 8 (.bslice 9 1 true []), v_ 5 8]) (q_ (q_ (r_ [s 9 (f_ 2 2), s 10 (l_ 9), v_ 11 1, s 12 (.mm true (t 11) (i_ 0)), s 13 (f_ 2 2), s 14 (l_ 13), s 15 (.len false (t 14)), s 16 (.mm false (t 12) (t 15)), s 17 (.slice false 5 (t 10) none (some (t 16))), s 18 (.len false (t 17)), s 19 (.mv (i_ 0))]) (.block 0 (.loop (q_ (r_ [s 20 (.bin .lss (t 19) (t 18))]) (q_ (.cond (t 20) .skip (.exit 0)) (q_ (.block 1 (q_ (r_ [s 21 (.iadr 5 (t 17) (t 19)), s 22 (a_ 5 21), s 7 (.alloc [(.int .i64 (.ofNat 0)), (.string (.mk (.mk []))), (.slice none 0 0), (.string (.mk (.mk []))), (.string (.mk (.mk [])))]), ⟨none, none, (.store 5 (t 7) (t 22))⟩]) (q_ (r_ [s 23 (f_ 0 7), s 24 (l_ 23), s 25 (.bin .eql (t 24) (i_ 1))]) (.cond (t 25) (r_ [v_ 26 5, s 27 (f_ 1 7), s 28 (a_ 2 27), s 29 (.call 143 [t 28]), s 30 (.append 9 1 16 (t 26) (t 29)), v_ 5 30]) .skip)))) (r_ [s 31 (.bin .add (t 19) (i_ 1)), v_ 19 31]))))))) (q_ (r_ [v_ 32 5, s 33 (.call 145 [t 32]), v_ 4 33]) .ret))))
theorem pBoundVars.ir : IrAt Tryz.prog 140 pBoundVars.code [0, 1, 2, 4, 5, 7, 17, 18, 19, 20] [.tmp 4] Tryz.f140.ntmps := ir_ Tryz.func140
abbrev pBoundVars.Own (args : List AV) (x : Tr) : Prop := Abs.Own true Tryz.prog 140 args x
abbrev pBoundVars.Ret (args : List AV) (r : AV) (frs : Fr) : Prop := Abs.Ret true Tryz.prog 140 args r frs
def sRuleVars.code : ACode := (q_ (r_ [s 1 (.box (t 0)), s 2 (.mv (.const (.slice none 0 0)))]) (q_ (r_ [s 10 (.bslice 9 1 true []), v_ 3 10]) (q_ (q_ (r_ [s 4 (.mv (i_ 0))]) (.block 0 (.loop (q_ (q_ (r_ [v_ 11 4, s 12 (f_ 2 1), s 13 (l_ 12), s 14 (.len false (t 13)), s 15 (.bin .lss (t 11) (t 14))]) (.cond (t 15) .skip (.exit 0))) (q_ (.block 1 (q_ (r_ [s 18 (f_ 2 1), s 19 (l_ 18), v_ 20 4, s 21 (.iadr 5 (t 19) (t 20)), s 22 (a_ 5 21), s 23 (.call 84 [t 22]), v_ 5 23]) (q_ (r_ [s 6 (.mv (i_ 0))]) (.block 2 (.loop (q_ (q_ (r_ [v_ 24 6, v_ 25 5, s 26 (.len false (t 25)), s 27 (.bin .lss (t 24) (t 26))]) (.cond (t 27) .skip (.exit 2))) (q_ (.block 3 (r_ [v_ 30 3, v_ 31 5, v_ 32 6, s 33 (.iadr 1 (t 31) (t 32)), s 34 (l_ 33), s 35 (.call 121 [t 30, t 34]), v_ 3 35])) (r_ [v_ 28 6, s 29 (.bin .add (t 28) (i_ 1)), v_ 6 29])))))))) (r_ [v_ 16 4, s 17 (.bin .add (t 16) (i_ 1)), v_ 4 17])))))) (q_ (q_ (r_ [s 7 (.mv (i_ 0))]) (.block 4 (.loop (q_ (q_ (r_ [v_ 36 7, s 37 (f_ 3 1), s 38 (l_ 37), s 39 (.len false (t 38)), s 40 (.bin .lss (t 36) (t 39))]) (.cond (t 40) .skip (.exit 4))) (q_ (.block 5 (q_ (r_ [s 43 (f_ 3 1), s 44 (l_ 43), v_ 45 7, s 46 (.iadr 3 (t 44) (t 45)), s 47 (f_ 1 46), s 48 (a_ 2 47), s 49 (.call 89 [t 48]), v_ 8 49]) (q_ (r_ [s 9 (.mv (i_ 0))]) (.block 6 (.loop (q_ (q_ (r_ [v_ 50 9, v_ 51 8, s 52 (.len false (t 51)), s 53 (.bin .lss (t 50) (t 52))]) (.cond (t 53) .skip (.exit 6))) (q_ (.block 7 (r_ [v_ 56 3, v_ 57 8, v_ 58 9, s 59 (.iadr 1 (t 57) (t 58)), s 60 (l_ 59), s 61 (.call 121 [t 56, t 60]), v_ 3 61])) (r_ [v_ 54 9, s 55 (.bin .add (t 54) (i_ 1)), v_ 9 55])))))))) (r_ [v_ 41 7, s 42 (.bin .add (t 41) (i_ 1)), v_ 7 42])))))) (q_ (r_ [v_ 62 3, v_ 2 62]) .ret)))))
theorem sRuleVars.ir : IrAt Tryz.prog 90 sRuleVars.code [0, 1, 2, 3, 4, 5, 6, 7, 8, 9] [.tmp 2] Tryz.f90.ntmps := ir_ Tryz.func90
abbrev sRuleVars.Own (args : List AV) (x : Tr) : Prop := Abs.Own true Tryz.prog 90 args x
def pRuleVars.code : ACode := (q_ (r_ [s 1 (.box (t 0)), s 2 (.mv (.const (.slice none 0 0)))]) (q_ (r_ [s 6 (f_ 2 1), s 7 (l_ 6), s 8 (.call 101 [t 7]), v_ 3 8]) (q_ (q_ (r_ [s 9 (f_ 3 1), s 10 (l_ 9), s 11 (.len false (t 10)), s 12 (.mv (i_ 0))]) (.block 0 (.loop (q_ (r_ [s 13 (.bin .lss (t 12) (t 11))]) (q_ (.cond (t 13) .skip (.exit 0)) (q_ (.block 1 (q_ (r_ [s 14 (.iadr 3 (t 10) (t 12)), s 15 (a_ 3 14), s 5 (.alloc [(.int .i64 (.ofNat 0)), (.string (.mk (.mk []))), (.slice none 0 0)]), ⟨none, none, (.store 3 (t 5) (t 15))⟩]) (r_ [v_ 16 3, s 17 (f_ 1 5), s 18 (a_ 2 17), s 19 (.call 143 [t 18]), s 20 (.append 9 1 16 (t 16) (t 19)), v_ 3 20]))) (r_ [s 21 (.bin .add (t 12) (i_ 1)), v_ 12 21]))))))) (q_ (r_ [v_ 22 3, s 23 (.call 145 [t 22]), v_ 2 23]) .ret))))
theorem pRuleVars.ir : IrAt Tryz.prog 171 pRuleVars.code [0, 1, 2, 3, 5, 10, 11, 12, 13] [.tmp 2] Tryz.f171.ntmps := ir_ Tryz.func171
abbrev pRuleVars.Own (args : List AV) (x : Tr) : Prop := Abs.Own true Tryz.prog 171 args x
abbrev pRuleVars.Ret (args : List AV) (r : AV) (frs : Fr) : Prop := Abs.Ret true Tryz.prog 171 args r frs
def sFindRule.code : ACode := (q_ (r_ [s 4 (.mv (i_ 0))]) (q_ (q_ (r_ [s 5 (.mv (i_ 0))]) (.block 0 (.loop (q_ (q_ (r_ [v_ 6 5, v_ 7 0, s 8 (.len false (t 7)), s 9 (.bin .lss (t 6) (t 8))]) (.cond (t 9) .skip (.exit 0))) (q_ (.block 1 (q_ (r_ [v_ 12 0, v_ 13 5, s 14 (.iadr 4 (t 12) (t 13)), s 15 (f_ 0 14), s 16 (l_ 15), v_ 17 1, s 18 (.bin .eql (t 16) (t 17))]) (.cond (t 18) (q_ (r_ [v_ 19 5, v_ 4 19]) .ret) .skip))) (r_ [v_ 10 5, s 11 (.bin .add (t 10) (i_ 1)), v_ 5 11])))))) (q_ (r_ [s 4 (.mv (.const (.int .i64 (-1))))]) .ret)))
theorem sFindRule.ir : IrAt Tryz.prog 109 sFindRule.code [0, 1, 4, 5] [.tmp 4] Tryz.f109.ntmps := ir_ Tryz.func109
abbrev sFindRule.Ret (args : List AV) (r : AV) (frs : Fr) : Prop := Abs.Ret true Tryz.prog 109 args r frs
def pFindRule.code : ACode := (q_ (r_ [s 3 (.box (t 1)), s 4 (.mv (i_ 0))]) (q_ (r_ [v_ 5 0, s 6 (.clo 156 [] [t 3]), s 7 (.call 155 [t 5, t 6]), v_ 4 7]) .ret))
theorem pFindRule.ir : IrAt Tryz.prog 110 pFindRule.code [0, 1, 3, 4] [.tmp 4] Tryz.f110.ntmps := ir_ Tryz.func110
abbrev pFindRule.Ret (args : List AV) (r : AV) (frs : Fr) : Prop := Abs.Ret true Tryz.prog 110 args r frs
def pvarsOfConds.code : ACode := (q_ (r_ [s 2 (.mv (.const (.slice none 0 0)))]) (q_ (r_ [s 6 (.bslice 9 1 true []), v_ 3 6]) (q_ (q_ (r_ [v_ 7 0, s 8 (.len false (t 7)), s 9 (.mv (i_ 0))]) (.block 0 (.loop (q_ (r_ [s 10 (.bin .lss (t 9) (t 8))]) (q_ (.cond (t 10) .skip (.exit 0)) (q_ (.block 1 (q_ (r_ [s 11 (.iadr 5 (t 7) (t 9)), s 12 (a_ 5 11), s 5 (.alloc [(.int .i64 (.ofNat 0)), (.string (.mk (.mk []))), (.slice none 0 0), (.string (.mk (.mk []))), (.string (.mk (.mk [])))]), ⟨none, none, (.store 5 (t 5) (t 12))⟩]) (r_ [v_ 13 3, s 14 (a_ 5 5), s 15 (.call 144 [t 14]), s 16 (.append 9 1 16 (t 13) (t 15)), v_ 3 16]))) (r_ [s 17 (.bin .add (t 9) (i_ 1)), v_ 9 17]))))))) (q_ (r_ [v_ 18 3, s 19 (.call 145 [t 18]), v_ 2 19]) .ret))))
theorem pvarsOfConds.ir : IrAt Tryz.prog 101 pvarsOfConds.code [0, 2, 3, 5, 7, 8, 9, 10] [.tmp 2] Tryz.f101.ntmps := ir_ Tryz.func101
abbrev pvarsOfConds.Own (args : List AV) (x : Tr) : Prop := Abs.Own true Tryz.prog 101 args x
abbrev pvarsOfConds.Ret (args : List AV) (r : AV) (frs : Fr) : Prop := Abs.Ret true Tryz.prog 101 args r frs
def slIndexFuncR.code : ACode := (q_ (r_ [s 4 (.mv (i_ 0))]) (q_ (q_ (r_ [v_ 6 0, s 7 (.len false (t 6)), s 8 (.mv (i_ 0))]) (.block 0 (.loop (q_ (r_ [s 9 (.bin .lss (t 8) (t 7))]) (q_ (.cond (t 9) .skip (.exit 0)) (q_ (.block 1 (q_ (r_ [v_ 10 8, v_ 5 10]) (q_ (r_ [v_ 11 1, v_ 12 0, v_ 13 5, s 14 (.iadr 4 (t 12) (t 13)), s 15 (a_ 4 14), s 16 (.callv (t 11) [t 15])]) (.cond (t 16) (q_ (r_ [v_ 17 5, v_ 4 17]) .ret) .skip)))) (r_ [s 18 (.bin .add (t 8) (i_ 1)), v_ 8 18]))))))) (q_ (r_ [s 4 (.mv (.const (.int .i64 (-1))))]) .ret)))
theorem slIndexFuncR.ir : IrAt Tryz.prog 155 slIndexFuncR.code [0, 1, 4, 5, 7, 8, 9] [.tmp 4] Tryz.f155.ntmps := ir_ Tryz.func155
abbrev slIndexFuncR.Ret (args : List AV) (r : AV) (frs : Fr) : Prop := Abs.Ret true Tryz.prog 155 args r frs
def pFindRuleClo.code : ACode := (q_ (r_ [s 2 (.box (t 0)), s 3 mf_]) (q_ (r_ [s 4 (f_ 0 2), s 5 (l_ 4), s 6 (l_ 1), s 7 (.bin .eql (t 5) (t 6)), v_ 3 7]) .ret))
theorem pFindRuleClo.ir : IrAt Tryz.prog 156 pFindRuleClo.code [0, 1, 2, 3] [.tmp 3] Tryz.f156.ntmps := ir_ Tryz.func156
abbrev pFindRuleClo.Ret (args : List AV) (r : AV) (frs : Fr) : Prop := Abs.Ret true Tryz.prog 156 args r frs
def sIsRule.code : ACode := (q_ (r_ [s 1 (.box (t 0)), s 2 mf_]) (q_ (q_ (r_ [s 13 (f_ 0 1), s 14 (l_ 13), s 15 (.call 81 [t 14]), s 16 (.not (t 15)), v_ 17 16, g 17 false 18 (f_ 1 1), g 17 false 19 (l_ 18), g 17 false 20 (.call 50 [t 19, (i_ 0), (i_ 9)]), g 17 false 21 (.not (t 20)), s 22 (.or (t 17) (t 21)), v_ 23 22, g 23 false 24 (f_ 2 1), g 23 false 25 (l_ 24), g 23 false 26 (.len false (t 25)), g 23 false 27 (.call 50 [t 26, (i_ 1), (i_ 4)]), g 23 false 28 (.not (t 27)), s 29 (.or (t 23) (t 28)), v_ 30 29, g 30 false 31 (f_ 3 1), g 30 false 32 (l_ 31), g 30 false 33 (.len false (t 32)), g 30 false 34 (.call 50 [t 33, (i_ 1), (i_ 2)]), g 30 false 35 (.not (t 34)), s 36 (.or (t 30) (t 35))]) (.cond (t 36) (q_ (r_ [s 2 mf_]) .ret) .skip)) (q_ (r_ [s 37 (a_ 4 1), s 38 (f_ 2 1), s 39 (l_ 38), s 40 (.len false (t 39)), s 41 (.call 82 [t 37, t 40]), v_ 3 41]) (q_ (q_ (r_ [s 4 (.mv (i_ 0))]) (.block 0 (.loop (q_ (q_ (r_ [v_ 42 4, s 43 (f_ 2 1), s 44 (l_ 43), s 45 (.len false (t 44)), s 46 (.bin .lss (t 42) (t 45))]) (.cond (t 46) .skip (.exit 0))) (q_ (.block 1 (q_ (r_ [s 49 (f_ 2 1), s 50 (l_ 49), v_ 51 4, s 52 (.iadr 5 (t 50) (t 51)), s 53 (a_ 5 52), s 5 (.alloc [(.int .i64 (.ofNat 0)), (.string (.mk (.mk []))), (.slice none 0 0), (.string (.mk (.mk []))), (.string (.mk (.mk [])))]), ⟨none, none, (.store 5 (t 5) (t 53))⟩]) (q_ (q_ (r_ [s 54 (a_ 5 5), s 55 (.call 83 [t 54]), s 56 (.not (t 55)), v_ 57 56, g 57 false 58 (.mv (t 4)), g 57 false 59 (.bin .eql (t 58) (i_ 0)), g 57 false 60 (.mv (t 59)), g 60 true 61 (f_ 0 5), g 60 true 62 (l_ 61), g 60 true 63 (.bin .neq (t 62) (i_ 1)), g 57 false 64 (.and (t 60) (t 63)), s 65 (.or (t 57) (t 64))]) (.cond (t 65) (q_ (r_ [s 2 mf_]) .ret) .skip)) (q_ (r_ [s 66 (a_ 4 1), v_ 67 4, s 68 (.call 82 [t 66, t 67]), v_ 6 68]) (q_ (r_ [s 69 (a_ 5 5), s 70 (.call 84 [t 69]), v_ 7 70]) (q_ (r_ [s 8 (.mv (i_ 0))]) (.block 2 (.loop (q_ (q_ (r_ [v_ 71 8, v_ 72 7, s 73 (.len false (t 72)), s 74 (.bin .lss (t 71) (t 73))]) (.cond (t 74) .skip (.exit 2))) (q_ (.block 3 (q_ (r_ [v_ 77 6, v_ 78 7, v_ 79 8, s 80 (.iadr 1 (t 78) (t 79)), s 81 (l_ 80), s 82 (.call 85 [t 77, t 81]), v_ 9 82]) (q_ (.region true [s 83 (a_ 5 5), s 84 (.call 86 [t 83]), v_ 85 84, g 85 true 86 (.mv (t 9)), g 85 true 87 (.not (t 86)), s 88 (.and (t 85) (t 87)), v_ 89 88, g 89 false 90 (f_ 0 5), g 89 false 91 (l_ 90), g 89 false 92 (.bin .eql (t 91) (i_ 2)), g 89 false 93 (.mv (t 92)), g 93 true 94 (.mv (t 9)), g 93 true 95 (.not (t 94)), g 89 false 96 (.and (t 93) (t 95)), g 89 false 97 (.mv (t 96)), g 97 true 98 (a_ 4 1), g 97 true 99 (.mv (t 4)), g 97 true 100 (.mv (t 7)), g 97 true 101 (.mv (t 8)), g 97 true 102 (.iadr 1 (t 100) (t 101)), g 97 true 103 (l_ 102), g 97 true 104 (.call 87 [t 98, t 99, t 103]), g 89 false 105 (.and (t 97) (t 104)), s 106 (.or (t 89) (t 105))]) (.cond (t 106) (q_ (r_ [s 2 mf_]) .ret) .skip)))) (r_ [v_ 75 8, s 76 (.bin .add (t 75) (i_ 1)), v_ 8 76]))))))))))) (r_ [v_ 47 4, s 48 (.bin .add (t 47) (i_ 1)), v_ 4 48])))))) (q_ (q_ (r_ [s 10 (.mv (i_ 0))]) (.block 4 (.loop (q_ (q_ (r_ [v_ 107 10, s 108 (f_ 3 1), s 109 (l_ 108), s 110 (.len false (t 109)), s 111 (.bin .lss (t 107) (t 110))]) (.cond (t 111) .skip (.exit 4))) (q_ (.block 5 (q_ (q_ (r_ [s 114 (f_ 3 1), s 115 (l_ 114), v_ 116 10, s 117 (.iadr 3 (t 115) (t 116)), s 118 (a_ 3 117), s 119 (.call 88 [t 118]), s 120 (.not (t 119))]) (.cond (t 120) (q_ (r_ [s 2 mf_]) .ret) .skip)) (q_ (r_ [s 121 (f_ 3 1), s 122 (l_ 121), v_ 123 10, s 124 (.iadr 3 (t 122) (t 123)), s 125 (f_ 1 124), s 126 (a_ 2 125), s 127 (.call 89 [t 126]), v_ 11 127]) (q_ (r_ [s 12 (.mv (i_ 0))]) (.block 6 (.loop (q_ (q_ (r_ [v_ 128 12, v_ 129 11, s 130 (.len false (t 129)), s 131 (.bin .lss (t 128) (t 130))]) (.cond (t 131) .skip (.exit 6))) (q_ (.block 7 (q_ (r_ [v_ 134 3, v_ 135 11, v_ 136 12, s 137 (.iadr 1 (t 135) (t 136)), s 138 (l_ 137), s 139 (.call 85 [t 134, t 138]), s 140 (.not (t 139))]) (.cond (t 140) (q_ (r_ [s 2 mf_]) .ret) .skip))) (r_ [v_ 132 12, s 133 (.bin .add (t 132) (i_ 1)), v_ 12 133]))))))))) (r_ [v_ 112 10, s 113 (.bin .add (t 112) (i_ 1)), v_ 10 113])))))) (q_ (r_ [s 141 (a_ 4 1), s 142 (.call 90 [t 141]), s 143 (.len false (t 142)), s 144 (.bin .leq (t 143) (i_ 6)), v_ 2 144]) .ret))))))
theorem sIsRule.ir : IrAt Tryz.prog 48 sIsRule.code [0, 1, 2, 3, 4, 5, 6, 7, 8, 9, 10, 11, 12] [.tmp 2] Tryz.f48.ntmps := ir_ Tryz.func48
abbrev sIsRule.Ret (args : List AV) (r : AV) (frs : Fr) : Prop := Abs.Ret true Tryz.prog 48 args r frs
def pIsRule.code : ACode := (q_ (r_ [s 1 (.box (t 0)), s 2 mf_]) (q_ (r_ [s 3 (f_ 0 1), s 4 (l_ 3), s 5 (.call 97 [t 4]), v_ 6 5, g 6 true 7 (f_ 1 1), g 6 true 8 (l_ 7), g 6 true 9 (.bin .leq (i_ 0) (t 8)), s 10 (.and (t 6) (t 9)), v_ 11 10, g 11 true 12 (f_ 1 1), g 11 true 13 (l_ 12), g 11 true 14 (.bin .leq (t 13) (i_ 9)), s 15 (.and (t 11) (t 14)), v_ 16 15, g 16 true 17 (f_ 2 1), g 16 true 18 (l_ 17), g 16 true 19 (.call 98 [t 18]), s 20 (.and (t 16) (t 19)), v_ 21 20, g 21 true 22 (f_ 3 1), g 21 true 23 (l_ 22), g 21 true 24 (.call 99 [t 23]), s 25 (.and (t 21) (t 24)), v_ 26 25, g 26 true 27 (a_ 4 1), g 26 true 28 (.call 100 [t 27]), s 29 (.and (t 26) (t 28)), v_ 30 29, g 30 true 31 (f_ 2 1), g 30 true 32 (l_ 31), g 30 true 33 (.call 101 [t 32]), g 30 true 34 (.len false (t 33)), g 30 true 35 (.bin .leq (t 34) (i_ 6)), s 36 (.and (t 30) (t 35)), v_ 2 36]) .ret))
theorem pIsRule.ir : IrAt Tryz.prog 55 pIsRule.code [0, 1, 2] [.tmp 2] Tryz.f55.ntmps := ir_ Tryz.func55
abbrev pIsRule.Ret (args : List AV) (r : AV) (frs : Fr) : Prop := Abs.Ret true Tryz.prog 55 args r frs
def sAreRules.code : ACode := (q_ (r_ [s 2 mf_]) (q_ (q_ (r_ [s 3 (.mv (i_ 0))]) (.block 0 (.loop (q_ (q_ (r_ [v_ 4 3, v_ 5 0, s 6 (.len false (t 5)), s 7 (.bin .lss (t 4) (t 6))]) (.cond (t 7) .skip (.exit 0))) (q_ (.block 1 (q_ (r_ [v_ 10 0, v_ 11 3, s 12 (.iadr 4 (t 10) (t 11)), s 13 (a_ 4 12), s 14 (.call 48 [t 13]), s 15 (.not (t 14)), v_ 16 15, g 16 false 17 (.mv (t 0)), g 16 false 18 (.mv (t 0)), g 16 false 19 (.mv (t 3)), g 16 false 20 (.iadr 4 (t 18) (t 19)), g 16 false 21 (f_ 0 20), g 16 false 22 (l_ 21), g 16 false 23 (.call 109 [t 17, t 22]), g 16 false 24 (.mv (t 3)), g 16 false 25 (.bin .neq (t 23) (t 24)), s 26 (.or (t 16) (t 25))]) (.cond (t 26) (q_ (r_ [s 2 mf_]) .ret) .skip))) (r_ [v_ 8 3, s 9 (.bin .add (t 8) (i_ 1)), v_ 3 9])))))) (q_ (r_ [v_ 27 0, s 28 (.len false (t 27)), s 29 (.bin .leq (t 28) (i_ 6)), v_ 2 29]) .ret)))
theorem sAreRules.ir : IrAt Tryz.prog 69 sAreRules.code [0, 2, 3] [.tmp 2] Tryz.f69.ntmps := ir_ Tryz.func69
abbrev sAreRules.Ret (args : List AV) (r : AV) (frs : Fr) : Prop := Abs.Ret true Tryz.prog 69 args r frs
def pAreRules.code : ACode := (q_ (r_ [s 2 mf_]) (q_ (q_ (r_ [v_ 5 0, s 6 (.len false (t 5)), s 7 (.bin .gtr (t 6) (i_ 6))]) (.cond (t 7) (q_ (r_ [s 2 mf_]) .ret) .skip)) (q_ (q_ (r_ [v_ 8 0, s 9 (.len false (t 8)), s 10 (.mv (i_ 0))]) (.block 0 (.loop (q_ (r_ [s 11 (.bin .lss (t 10) (t 9))]) (q_ (.cond (t 11) .skip (.exit 0)) (q_ (.block 1 (q_ (r_ [v_ 12 10, s 13 (.iadr 4 (t 8) (t 10)), s 14 (a_ 4 13), s 4 (.alloc [(.string (.mk (.mk []))), (.int .i64 (.ofNat 0)), (.slice none 0 0), (.slice none 0 0)]), v_ 3 12, ⟨none, none, (.store 4 (t 4) (t 14))⟩]) (q_ (r_ [s 15 (a_ 4 4), s 16 (.call 55 [t 15]), s 17 (.not (t 16)), v_ 18 17, g 18 false 19 (.mv (t 0)), g 18 false 20 (f_ 0 4), g 18 false 21 (l_ 20), g 18 false 22 (.call 110 [t 19, t 21]), g 18 false 23 (.mv (t 3)), g 18 false 24 (.bin .neq (t 22) (t 23)), s 25 (.or (t 18) (t 24))]) (.cond (t 25) (q_ (r_ [s 2 mf_]) .ret) .skip)))) (r_ [s 26 (.bin .add (t 10) (i_ 1)), v_ 10 26]))))))) (q_ (r_ [s 2 mt_]) .ret))))
theorem pAreRules.ir : IrAt Tryz.prog 70 pAreRules.code [0, 2, 3, 4, 8, 9, 10, 11] [.tmp 2] Tryz.f70.ntmps := ir_ Tryz.func70
abbrev pAreRules.Ret (args : List AV) (r : AV) (frs : Fr) : Prop := Abs.Ret true Tryz.prog 70 args r frs
def sElse.code : ACode := (q_ (r_ [s 3 (.box (t 0)), s 6 mf_]) (q_ (q_ (r_ [s 7 (.mv (i_ 0))]) (.block 0 (.loop (q_ (q_ (r_ [v_ 9 7, s 10 (f_ 2 3), s 11 (l_ 10), s 12 (.len false (t 11)), s 13 (.bin .lss (t 9) (t 12))]) (.cond (t 13) .skip (.exit 0))) (q_ (.block 1 (q_ (r_ [v_ 16 7, v_ 17 1, s 18 (.bin .neq (t 16) (t 17)), v_ 19 18, g 19 true 20 (f_ 2 3), g 19 true 21 (l_ 20), g 19 true 22 (.mv (t 7)), g 19 true 23 (.iadr 5 (t 21) (t 22)), g 19 true 24 (a_ 5 23), g 19 true 25 (.call 84 [t 24]), g 19 true 26 (.mv (t 2)), g 19 true 27 (.call 85 [t 25, t 26]), s 28 (.and (t 19) (t 27))]) (.cond (t 28) (q_ (r_ [s 6 mt_]) .ret) .skip))) (r_ [v_ 14 7, s 15 (.bin .add (t 14) (i_ 1)), v_ 7 15])))))) (q_ (q_ (r_ [s 8 (.mv (i_ 0))]) (.block 2 (.loop (q_ (q_ (r_ [v_ 29 8, s 30 (f_ 3 3), s 31 (l_ 30), s 32 (.len false (t 31)), s 33 (.bin .lss (t 29) (t 32))]) (.cond (t 33) .skip (.exit 2))) (q_ (.block 3 (q_ (r_ [s 36 (f_ 3 3), s 37 (l_ 36), v_ 38 8, s 39 (.iadr 3 (t 37) (t 38)), s 40 (f_ 1 39), s 41 (a_ 2 40), s 42 (.call 89 [t 41]), v_ 43 2, s 44 (.call 85 [t 42, t 43])]) (.cond (t 44) (q_ (r_ [s 6 mt_]) .ret) .skip))) (r_ [v_ 34 8, s 35 (.bin .add (t 34) (i_ 1)), v_ 8 35])))))) (q_ (r_ [s 6 mf_]) .ret))))
theorem sElse.ir : IrAt Tryz.prog 87 sElse.code [0, 1, 2, 3, 6, 7, 8] [.tmp 6] Tryz.f87.ntmps := ir_ Tryz.func87
abbrev sElse.Ret (args : List AV) (r : AV) (frs : Fr) : Prop := Abs.Ret true Tryz.prog 87 args r frs
def pareConds.code : ACode := (q_ (r_ [s 2 mf_]) (q_ (r_ [v_ 3 0, s 4 (.len false (t 3)), s 5 (.bin .leq (i_ 1) (t 4)), v_ 6 5, g 6 true 7 (.mv (t 0)), g 6 true 8 (.len false (t 7)), g 6 true 9 (.bin .leq (t 8) (i_ 4)), s 10 (.and (t 6) (t 9)), v_ 11 10, g 11 true 12 (.mv (t 0)), g 11 true 13 (.iadr 5 (t 12) (i_ 0)), g 11 true 14 (f_ 0 13), g 11 true 15 (l_ 14), g 11 true 16 (.bin .eql (t 15) (i_ 1)), s 17 (.and (t 11) (t 16)), v_ 18 17, g 18 true 19 (.mv (t 0)), g 18 true 20 (.call 135 [t 19, (.func 136)]), s 21 (.and (t 18) (t 20)), v_ 2 21]) .ret))
theorem pareConds.ir : IrAt Tryz.prog 98 pareConds.code [0, 2] [.tmp 2] Tryz.f98.ntmps := ir_ Tryz.func98
abbrev pareConds.Ret (args : List AV) (r : AV) (frs : Fr) : Prop := Abs.Ret true Tryz.prog 98 args r frs
def pareActions.code : ACode := (q_ (r_ [s 2 mf_]) (q_ (r_ [v_ 3 0, s 4 (.len false (t 3)), s 5 (.bin .leq (i_ 1) (t 4)), v_ 6 5, g 6 true 7 (.mv (t 0)), g 6 true 8 (.len false (t 7)), g 6 true 9 (.bin .leq (t 8) (i_ 2)), s 10 (.and (t 6) (t 9)), v_ 11 10, g 11 true 12 (.mv (t 0)), g 11 true 13 (.call 137 [t 12, (.func 138)]), s 14 (.and (t 11) (t 13)), v_ 2 14]) .ret))
theorem pareActions.ir : IrAt Tryz.prog 99 pareActions.code [0, 2] [.tmp 2] Tryz.f99.ntmps := ir_ Tryz.func99
abbrev pareActions.Ret (args : List AV) (r : AV) (frs : Fr) : Prop := Abs.Ret true Tryz.prog 99 args r frs
def pusesOnlyBound.code : ACode := (q_ (r_ [s 1 (.box (t 0)), s 2 mf_]) (q_ (q_ (r_ [s 5 (f_ 2 1), s 6 (l_ 5), s 7 (.len false (t 6)), s 8 (.mv (i_ 0))]) (.block 0 (.loop (q_ (r_ [s 9 (.bin .lss (t 8) (t 7))]) (q_ (.cond (t 9) .skip (.exit 0)) (q_ (.block 1 (q_ (r_ [v_ 10 8, v_ 3 10]) (q_ (r_ [s 11 (a_ 4 1), v_ 12 3, s 13 (.call 139 [t 11, t 12]), s 14 (.not (t 13))]) (.cond (t 14) (q_ (r_ [s 2 mf_]) .ret) .skip)))) (r_ [s 15 (.bin .add (t 8) (i_ 1)), v_ 8 15]))))))) (q_ (r_ [s 16 (a_ 4 1), s 17 (f_ 2 1), s 18 (l_ 17), s 19 (.len false (t 18)), s 20 (.call 140 [t 16, t 19]), s 4 (.alloc [(.slice none 0 0)]), ⟨none, none, (.store 1 (t 4) (t 20))⟩]) (q_ (r_ [s 21 (f_ 3 1), s 22 (l_ 21), s 23 (.clo 141 [] [t 4]), s 24 (.call 137 [t 22, t 23]), v_ 2 24]) .ret))))
theorem pusesOnlyBound.ir : IrAt Tryz.prog 100 pusesOnlyBound.code [0, 1, 2, 3, 4, 7, 8, 9] [.tmp 2] Tryz.f100.ntmps := ir_ Tryz.func100
abbrev pusesOnlyBound.Ret (args : List AV) (r : AV) (frs : Fr) : Prop := Abs.Ret true Tryz.prog 100 args r frs
def pmayStandAt.code : ACode := (q_ (r_ [s 2 (.box (t 0)), s 4 mf_]) (q_ (.heldT [8, 9, 10, 11, 12, 13, 14, 15, 5, 6] (.alt (s 8 (f_ 2 2)) (.alt (s 9 (l_ 8)) (.alt (v_ 10 1) (.alt (s 11 (.iadr 5 (t 9) (t 10))) (.alt (s 12 (a_ 5 11)) (.alt (s 13 (a_ 4 2)) (.alt (v_ 14 1) (.alt (s 15 (.call 140 [t 13, t 14])) (.alt (s 5 (.alloc [(.int .i64 (.ofNat 0)), (.string (.mk (.mk []))), (.slice none 0 0), (.string (.mk (.mk []))), (.string (.mk (.mk [])))])) (.alt (s 6 (.alloc [(.slice none 0 0)])) .fin .none) (.alt (s 6 (.alloc [(.slice none 0 0)])) (.alt (s 5 (.alloc [(.int .i64 (.ofNat 0)), (.string (.mk (.mk []))), (.slice none 0 0), (.string (.mk (.mk []))), (.string (.mk (.mk [])))])) .fin .none) .none)) (.alt (s 5 (.alloc [(.int .i64 (.ofNat 0)), (.string (.mk (.mk []))), (.slice none 0 0), (.string (.mk (.mk []))), (.string (.mk (.mk [])))])) (.alt (s 15 (.call 140 [t 13, t 14])) (.alt (s 6 (.alloc [(.slice none 0 0)])) .fin .none) (.alt (s 6 (.alloc [(.slice none 0 0)])) (.alt (s 15 (.call 140 [t 13, t 14])) .fin .none) .none)) (.alt (s 6 (.alloc [(.slice none 0 0)])) (.alt (s 15 (.call 140 [t 13, t 14])) (.alt (s 5 (.alloc [(.int .i64 (.ofNat 0)), (.string (.mk (.mk []))), (.slice none 0 0), (.string (.mk (.mk []))), (.string (.mk (.mk [])))])) .fin .none) (.alt (s 5 (.alloc [(.int .i64 (.ofNat 0)), (.string (.mk (.mk []))), (.slice none 0 0), (.string (.mk (.mk []))), (.string (.mk (.mk [])))])) (.alt (s 15 (.call 140 [t 13, t 14])) .fin .none) .none)) .none))) .none) .none) .none) .none) .none) .none) .none) [⟨none, none, (.store 5 (t 5) (t 12))⟩, ⟨none, none, (.store 1 (t 6) (t 15))⟩]) (q_ (q_ (r_ [s 16 (f_ 0 5), s 17 (l_ 16)]) (.block 0 (q_ (r_ [s 19 (.bin .eql (t 17) (i_ 1)), v_ 18 19]) (.cond (t 18) (q_ (r_ [s 4 mt_]) .ret) (q_ (r_ [s 21 (.bin .eql (t 17) (i_ 2)), v_ 20 21]) (.cond (t 20) (q_ (.heldT [22, 23, 24, 25, 26, 27, 28, 29, 30, 31, 32, 33, 34, 35, 36, 7] (.alt (s 22 (f_ 2 2)) (.alt (s 23 (l_ 22)) (.alt (v_ 24 1) (.alt (s 25 (.slice false 5 (t 23) none (some (t 24)))) (.alt (s 26 (f_ 2 2)) (.alt (s 27 (l_ 26)) (.alt (v_ 28 1) (.alt (s 29 (.bin .add (t 28) (i_ 1))) (.alt (s 30 (.slice false 5 (t 27) (some (t 29)) none)) (.alt (s 33 (f_ 3 2)) (.alt (s 34 (l_ 33)) (.alt (s 31 (.bslice 31 1 true [t 25, t 30])) (.alt (s 32 (.call 172 [t 31])) (.alt (s 35 (.build [(.string (.mk (.mk []))), (.int .i64 (.ofNat 0)), (.slice none 0 0), (.slice none 0 0)] [(2, 1), (3, 1)] [t 32, t 34])) (.alt (s 36 (.call 171 [t 35])) (.alt (s 7 (.alloc [(.slice none 0 0)])) .fin .none) (.alt (s 7 (.alloc [(.slice none 0 0)])) (.alt (s 36 (.call 171 [t 35])) .fin .none) .none)) .none) (.alt (s 7 (.alloc [(.slice none 0 0)])) (.alt (s 32 (.call 172 [t 31])) (.alt (s 35 (.build [(.string (.mk (.mk []))), (.int .i64 (.ofNat 0)), (.slice none 0 0), (.slice none 0 0)] [(2, 1), (3, 1)] [t 32, t 34])) (.alt (s 36 (.call 171 [t 35])) .fin .none) .none) .none) .none)) (.alt (s 7 (.alloc [(.slice none 0 0)])) (.alt (s 31 (.bslice 31 1 true [t 25, t 30])) (.alt (s 32 (.call 172 [t 31])) (.alt (s 35 (.build [(.string (.mk (.mk []))), (.int .i64 (.ofNat 0)), (.slice none 0 0), (.slice none 0 0)] [(2, 1), (3, 1)] [t 32, t 34])) (.alt (s 36 (.call 171 [t 35])) .fin .none) .none) .none) .none) .none)) .none) .none) .none) .none) .none) .none) .none) .none) .none) .none) .none) [⟨none, none, (.store 1 (t 7) (t 36))⟩]) (q_ (r_ [s 37 (a_ 5 5), s 38 (.call 144 [t 37]), s 39 (.clo 174 [] [t 6, t 7]), s 40 (.call 173 [t 38, t 39]), v_ 4 40]) .ret)) .skip)))))) (q_ (.held [s 41 (a_ 5 5), s 43 (l_ 6), s 42 (.call 144 [t 41])] [s 44 (.call 142 [t 42, t 43]), v_ 4 44]) .ret))))
theorem pmayStandAt.ir : IrAt Tryz.prog 139 pmayStandAt.code [0, 1, 2, 4, 5, 6, 7, 17] [.tmp 4] Tryz.f139.ntmps := ir_ Tryz.func139
abbrev pmayStandAt.Ret (args : List AV) (r : AV) (frs : Fr) : Prop := Abs.Ret true Tryz.prog 139 args r frs
def pareAmong.code : ACode := (q_ (r_ [s 3 (.box (t 1)), s 4 mf_]) (q_ (r_ [v_ 5 0, s 6 (.clo 176 [] [t 3]), s 7 (.call 173 [t 5, t 6]), v_ 4 7]) .ret))
theorem pareAmong.ir : IrAt Tryz.prog 142 pareAmong.code [0, 1, 3, 4] [.tmp 4] Tryz.f142.ntmps := ir_ Tryz.func142
abbrev pareAmong.Ret (args : List AV) (r : AV) (frs : Fr) : Prop := Abs.Ret true Tryz.prog 142 args r frs
def pallC.code : ACode := (q_ (r_ [s 4 mf_]) (q_ (q_ (r_ [v_ 7 0, s 8 (.len false (t 7)), s 9 (.mv (i_ 0))]) (.block 0 (.loop (q_ (r_ [s 10 (.bin .lss (t 9) (t 8))]) (q_ (.cond (t 10) .skip (.exit 0)) (q_ (.block 1 (q_ (r_ [s 11 (.iadr 5 (t 7) (t 9)), s 12 (a_ 5 11), s 6 (.alloc [(.int .i64 (.ofNat 0)), (.string (.mk (.mk []))), (.slice none 0 0), (.string (.mk (.mk []))), (.string (.mk (.mk [])))]), ⟨none, none, (.store 5 (t 6) (t 12))⟩]) (q_ (r_ [v_ 13 1, s 14 (a_ 5 6), s 15 (.callv (t 13) [t 14]), s 16 (.not (t 15))]) (.cond (t 16) (q_ (r_ [s 4 mf_]) .ret) .skip)))) (r_ [s 17 (.bin .add (t 9) (i_ 1)), v_ 9 17]))))))) (q_ (r_ [s 4 mt_]) .ret)))
theorem pallC.ir : IrAt Tryz.prog 135 pallC.code [0, 1, 4, 6, 7, 8, 9, 10] [.tmp 4] Tryz.f135.ntmps := ir_ Tryz.func135
abbrev pallC.Ret (args : List AV) (r : AV) (frs : Fr) : Prop := Abs.Ret true Tryz.prog 135 args r frs
def pallA.code : ACode := (q_ (r_ [s 4 mf_]) (q_ (q_ (r_ [v_ 7 0, s 8 (.len false (t 7)), s 9 (.mv (i_ 0))]) (.block 0 (.loop (q_ (r_ [s 10 (.bin .lss (t 9) (t 8))]) (q_ (.cond (t 10) .skip (.exit 0)) (q_ (.block 1 (q_ (r_ [s 11 (.iadr 3 (t 7) (t 9)), s 12 (a_ 3 11), s 6 (.alloc [(.int .i64 (.ofNat 0)), (.string (.mk (.mk []))), (.slice none 0 0)]), ⟨none, none, (.store 3 (t 6) (t 12))⟩]) (q_ (r_ [v_ 13 1, s 14 (a_ 3 6), s 15 (.callv (t 13) [t 14]), s 16 (.not (t 15))]) (.cond (t 16) (q_ (r_ [s 4 mf_]) .ret) .skip)))) (r_ [s 17 (.bin .add (t 9) (i_ 1)), v_ 9 17]))))))) (q_ (r_ [s 4 mt_]) .ret)))
theorem pallA.ir : IrAt Tryz.prog 137 pallA.code [0, 1, 4, 6, 7, 8, 9, 10] [.tmp 4] Tryz.f137.ntmps := ir_ Tryz.func137
abbrev pallA.Ret (args : List AV) (r : AV) (frs : Fr) : Prop := Abs.Ret true Tryz.prog 137 args r frs
def pallS.code : ACode := (q_ (r_ [s 4 mf_]) (q_ (q_ (r_ [v_ 7 0, s 8 (.len false (t 7)), s 9 (.mv (i_ 0))]) (.block 0 (.loop (q_ (r_ [s 10 (.bin .lss (t 9) (t 8))]) (q_ (.cond (t 10) .skip (.exit 0)) (q_ (.block 1 (q_ (r_ [s 11 (.iadr 1 (t 7) (t 9)), s 12 (l_ 11), v_ 6 12]) (q_ (r_ [v_ 13 1, v_ 14 6, s 15 (.callv (t 13) [t 14]), s 16 (.not (t 15))]) (.cond (t 16) (q_ (r_ [s 4 mf_]) .ret) .skip)))) (r_ [s 17 (.bin .add (t 9) (i_ 1)), v_ 9 17]))))))) (q_ (r_ [s 4 mt_]) .ret)))
theorem pallS.ir : IrAt Tryz.prog 173 pallS.code [0, 1, 4, 6, 7, 8, 9, 10] [.tmp 4] Tryz.f173.ntmps := ir_ Tryz.func173
abbrev pallS.Ret (args : List AV) (r : AV) (frs : Fr) : Prop := Abs.Ret true Tryz.prog 173 args r frs
def pmayClo.code : ACode := (q_ (r_ [s 4 mf_]) (q_ (r_ [s 5 (l_ 1), v_ 6 0, s 7 (.call 175 [t 5, t 6]), v_ 8 7, g 8 false 9 (l_ 2), g 8 false 10 (.mv (t 0)), g 8 false 11 (.call 175 [t 9, t 10]), g 8 false 12 (.not (t 11)), s 13 (.or (t 8) (t 12)), v_ 4 13]) .ret))
theorem pmayClo.ir : IrAt Tryz.prog 174 pmayClo.code [0, 1, 2, 4] [.tmp 4] Tryz.f174.ntmps := ir_ Tryz.func174
abbrev pmayClo.Ret (args : List AV) (r : AV) (frs : Fr) : Prop := Abs.Ret true Tryz.prog 174 args r frs
def pamongClo.code : ACode := (q_ (r_ [s 3 mf_]) (q_ (r_ [s 4 (l_ 1), v_ 5 0, s 6 (.call 175 [t 4, t 5]), v_ 3 6]) .ret))
theorem pamongClo.ir : IrAt Tryz.prog 176 pamongClo.code [0, 1, 3] [.tmp 3] Tryz.f176.ntmps := ir_ Tryz.func176
abbrev pamongClo.Ret (args : List AV) (r : AV) (frs : Fr) : Prop := Abs.Ret true Tryz.prog 176 args r frs
def pusesClo.code : ACode := (q_ (r_ [s 2 (.box (t 0)), s 3 mf_]) (q_ (.held [s 4 (f_ 1 2), s 5 (a_ 2 4), s 7 (l_ 1), s 6 (.call 143 [t 5])] [s 8 (.call 142 [t 6, t 7]), v_ 3 8]) .ret))
theorem pusesClo.ir : IrAt Tryz.prog 141 pusesClo.code [0, 1, 2, 3] [.tmp 3] Tryz.f141.ntmps := ir_ Tryz.func141
abbrev pusesClo.Ret (args : List AV) (r : AV) (frs : Fr) : Prop := Abs.Ret true Tryz.prog 141 args r frs
def slConcatC.code : ACode := (q_ (r_ [s 2 (.mv (.const (.slice none 0 0)))]) (q_ (r_ [s 3 (.mv (i_ 0))]) (q_ (q_ (r_ [v_ 9 0, s 10 (.len false (t 9)), s 11 (.mv (i_ 0))]) (.block 0 (.loop (q_ (r_ [s 12 (.bin .lss (t 11) (t 10))]) (q_ (.cond (t 12) .skip (.exit 0)) (q_ (.block 1 (q_ (r_ [s 13 (.iadr 1 (t 9) (t 11)), s 14 (l_ 13), v_ 5 14]) (q_ (r_ [v_ 15 3, v_ 16 5, s 17 (.len false (t 16)), s 18 (.bin .add (t 15) (t 17)), v_ 3 18]) (q_ (r_ [v_ 19 3, s 20 (.bin .lss (t 19) (i_ 0))]) (.cond (t 20) (r_ [s 21 .other, ⟨none, none, .other⟩]) .skip))))) (r_ [s 22 (.bin .add (t 11) (i_ 1)), v_ 11 22]))))))) (q_ (r_ [v_ 23 3, s 24 (.call 199 [(.const (.slice none 0 0)), t 23]), v_ 6 24]) (q_ (q_ (r_ [v_ 25 0, s 26 (.len false (t 25)), s 27 (.mv (i_ 0))]) (.block 2 (.loop (q_ (r_ [s 28 (.bin .lss (t 27) (t 26))]) (q_ (.cond (t 28) .skip (.exit 2)) (q_ (.block 3 (q_ (r_ [s 29 (.iadr 1 (t 25) (t 27)), s 30 (l_ 29), v_ 8 30]) (r_ [v_ 31 6, v_ 32 8, s 33 (.append 116 5 80 (t 31) (t 32)), v_ 6 33]))) (r_ [s 34 (.bin .add (t 27) (i_ 1)), v_ 27 34]))))))) (q_ (r_ [v_ 35 6, v_ 2 35]) .ret))))))
theorem slConcatC.ir : IrAt Tryz.prog 172 slConcatC.code [0, 2, 3, 5, 6, 8, 9, 10, 11, 12, 25, 26, 27, 28] [.tmp 2] Tryz.f172.ntmps := ir_ Tryz.func172
abbrev slConcatC.Ret (args : List AV) (r : AV) (frs : Fr) : Prop := Abs.Ret true Tryz.prog 172 args r frs
abbrev slGrowC.Ret (args : List AV) (r : AV) (frs : Fr) : Prop := Abs.Ret true Tryz.prog 199 args r frs
open Abs
theorem tAction_pat (x : VAction) : tPattern.size x.2 ≤ tAction.size x := by
 have h : tAction.size x = 0 + tPattern.size x.2 := rfl
 omega
theorem act_has {x : VAction} (h : hasKind x.1 = true) : isPatF x.2 = isActF x := by rw [isActF, if_pos h]
theorem act_stop {x : VAction} (h : x.1 = 3) : zeroP x.2 = isActF x := by rw [isActF, if_neg (by simp [hasKind, h]), if_pos h]
theorem act_no {x : VAction} (h1 : x.1 ≠ 1) (h2 : x.1 ≠ 2) (h3 : x.1 ≠ 3) : false = isActF x := by rw [isActF, if_neg (by simp [hasKind, h1, h2]), if_neg h3]
theorem sIsAction.ret (x : VAction) (h : tAction.size x ≤ 1048576) : sIsAction.Ret [.agg (oldL (tAction.q x))] (.val (.bool (isActF x))) [] := by
 refine sIsAction.ir.of rfl ?_
 have hp := tAction_pat x
 repeat' first
  | (conv => whnf
     first | refine Need.mk (fun h => h) ?_ | refine Need.mk rfl ?_ | refine nb_ ?_ | refine Fork.decYes (by omega) ?_ | refine Fork.dec (fun _ => ?_) (fun _ => ?_) | refine FinVal.keep ?_ | refine Final.mk ?_ rfl | refine ACall.scalA _ _ (sIsPattern.ret _ ?_) rfl ?_)
  | refine AV.bool_congr ?_
 all_goals first
  | omega
  | (refine act_has ?_; simp [hasKind, *]; done)
  | (rw [length_oldLL, List.length_map]; exact act_stop (by assumption))
  | exact act_no (by assumption) (by assumption) (by assumption)
theorem pIsAction.ret (x : VAction) (h : tAction.size x ≤ 1048576) : pIsAction.Ret [.agg (oldL (tAction.q x))] (.val (.bool (isActF x))) [] := by
 refine pIsAction.ir.of rfl ?_
 have hp := tAction_pat x
 have hzp := pzero.ret x.2 (by omega)
 repeat' first
  | (conv => whnf
     first | refine Need.mk rfl ?_ | refine nb_ ?_ | refine Fork.decYes (by omega) ?_ | refine Fork.dec (fun _ => ?_) (fun _ => ?_) | refine FinVal.keep ?_ | refine Final.mk ?_ rfl | refine ACall.scalA _ _ (pIsPattern.ret _ ?_) rfl ?_ | refine ACall.scalA _ _ (hzp) rfl ?_)
  | refine AV.bool_congr ?_
 all_goals first
  | omega
  | (refine act_has ?_; simp [hasKind, *]; done)
  | exact act_stop (by assumption)
  | exact act_no (by assumption) (by assumption) (by assumption)
theorem cond_le {l : List VCond} {i : Nat} (hi : i < l.length) : tCond.size (l.getD i default) ≤ listSize tCond l := tCond_le hi
theorem own_anyP {F : Fr} {l : List Str} {k : Nat} (hk : F[k]? = some (9, 1, l.length)) : ∃ ts, OwnA F [strT l] [.list (some k) (strs l)] ts ∧ ts.Nodup := own_rowF hk rfl
theorem act_le {l : List VAction} {i : Nat} (hi : i < l.length) : tAction.size (l.getD i default) ≤ listSize tAction l := tAction_le hi
open Abs
theorem rule_le {l : List VRule} {i : Nat} (hi : i < l.length) : tRule.size (l.getD i default) ≤ listSize tRule l := tRule_le hi
theorem sFindRule.ret (l : List VRule) (f : Str) (h : tRules.size l ≤ 1048576) : sFindRule.Ret [.list none (rows tRule l), .str f] (.val (.int .i64 (findR l f 0))) [] := by
 refine sFindRule.ir.of rfl ?_
 rw [tRules_sz] at h
 skip
 refine ALoop.mk Nat (fun i => ⟨[(0, .list none (rows tRule l)), (1, .str f), (5, .val (.int .i64 i))], [], []⟩) (fun i => i ≤ l.length ∧ findR (l.drop i) f i = findR l f 0) (fun i => l.length - i) ⟨0, ⟨Nat.zero_le _, rfl⟩, ?_⟩ (fun i hi => ?_)
 ·repeat' first
   | exact trivial | refine wl_ ?_ ?_ ?_ ?_ | refine And.intro ?_ ?_ | with_reducible rfl | exact ble_ | refine AV.int_congr ?_ | refine AV.str_congr ?_ | refine AV.list_congr ?_ | (apply rfl)
 by_cases hi' : i < l.length
 rotate_left
 ·repeat' first
   | (conv => whnf
      first | refine Need.mk rfl ?_ | refine Fork.decN ?_ | refine FinVal.keep ?_ | refine Final.mk ?_ rfl)
   | refine AV.int_congr ?_
  rw [← hi.2, List.drop_eq_nil_of_le (by omega)]; rfl
 have hd := findR_drop (f := f) hi'
 rw [hi.2] at hd
 repeat' first
  | (conv => whnf
     first | refine Need.mk rfl ?_ | refine Ix.mapN (fun _ => rfl) ?_ | refine Fork.decY ?_ | refine Fork.seq (fun _ => ?_) (fun _ => ?_) | refine Round.mk ?_ | refine FinVal.keep ?_ | refine Final.mk ?_ rfl)
  | refine AV.int_congr ?_
 ·rename_i h1
  rw [Int.toNat_natCast] at h1
  rw [hd, if_pos h1]
 ·rename_i h1
  rw [Int.toNat_natCast] at h1
  refine ⟨i + 1, ⟨by omega, by rw [hd, if_neg h1]⟩, ?_, by omega⟩
  repeat' first
   | exact trivial | refine wl_ ?_ ?_ ?_ ?_ | refine And.intro ?_ ?_ | with_reducible rfl | exact ble_ | refine AV.int_congr ?_ | refine AV.str_congr ?_ | refine AV.list_congr ?_ | (apply rfl)
  rw [wrap64 (by omega) (by omega)]; rfl
theorem pFindRuleClo.ret (r : VRule) (f : Str) : pFindRuleClo.Ret [.agg (oldL (tRule.q r)), .rptr [.str f]] (.val (.bool (r.1 == f))) [] := by
 refine pFindRuleClo.ir.of rfl ?_
 repeat' first
  | (conv => whnf
     first | refine FinVal.keep ?_ | refine Final.mk rfl rfl)
theorem slIndexFuncR.ret (l : List VRule) (f : Str) (h : tRules.size l ≤ 1048576) : slIndexFuncR.Ret [.list none (rows tRule l), .clo 156 [] [.rptr [.str f]]] (.val (.int .i64 (findR l f 0))) [] := by
 refine slIndexFuncR.ir.of rfl ?_
 rw [tRules_sz] at h
 skip
 refine ALoop.mk Nat (fun i => ⟨[(0, .list none (rows tRule l)), (1, .clo 156 [] [.rptr [.str f]]), (7, .val (.int .i64 l.length)), (8, .val (.int .i64 i))], [], []⟩) (fun i => i ≤ l.length ∧ findR (l.drop i) f i = findR l f 0) (fun i => l.length - i) ⟨0, ⟨Nat.zero_le _, rfl⟩, ?_⟩ (fun i hi => ?_)
 ·repeat' first
   | exact trivial | refine wl_ ?_ ?_ ?_ ?_ | refine And.intro ?_ ?_ | with_reducible rfl | exact ble_ | refine AV.int_congr ?_ | refine AV.list_congr ?_ | (apply rfl)
  simp
 by_cases hi' : i < l.length
 rotate_left
 ·repeat' first
   | (conv => whnf
      first | refine Need.mk rfl ?_ | refine Fork.decN ?_ | refine FinVal.keep ?_ | refine Final.mk ?_ rfl)
   | refine AV.int_congr ?_
  rw [← hi.2, List.drop_eq_nil_of_le (by omega)]; rfl
 have hd := findR_drop (f := f) hi'
 rw [hi.2] at hd
 repeat' first
  | (conv => whnf
     first | refine Need.mk rfl ?_ | refine nb_ ?_ | refine Ix.mapN (fun _ => rfl) ?_ | refine Fork.decY ?_ | refine Fork.seq (fun _ => ?_) (fun _ => ?_) | refine Round.mk ?_ | refine FinVal.keep ?_ | refine Final.mk ?_ rfl | refine ACall.scalC _ _ (pFindRuleClo.ret _ _) rfl ?_)
  | refine AV.int_congr ?_
 ·rename_i h1
  rw [Int.toNat_natCast] at h1
  rw [hd, if_pos h1]
 ·rename_i h1
  rw [Int.toNat_natCast] at h1
  refine ⟨i + 1, ⟨by omega, by rw [hd, if_neg h1]⟩, ?_, by omega⟩
  repeat' first
   | exact trivial | refine wl_ ?_ ?_ ?_ ?_ | refine And.intro ?_ ?_ | with_reducible rfl | exact ble_ | refine AV.int_congr ?_ | refine AV.list_congr ?_ | (apply rfl)
  rw [wrap64 (by omega) (by omega)]; rfl
theorem pFindRule.ret (l : List VRule) (f : Str) (h : tRules.size l ≤ 1048576) : pFindRule.Ret [.list none (rows tRule l), .str f] (.val (.int .i64 (findR l f 0))) [] := by
 refine pFindRule.ir.of rfl ?_
 repeat' first
  | (conv => whnf
     first | refine Need.mk ?_ ?_ | refine FinVal.keep ?_ | refine Final.mk rfl rfl | refine ACall.scalC _ _ (slIndexFuncR.ret _ _ ?_) rfl ?_)
 ·exact ⟨rfl, rfl⟩
 ·exact h
end Go.Proofs.YtoindmahilbalaaGreat
