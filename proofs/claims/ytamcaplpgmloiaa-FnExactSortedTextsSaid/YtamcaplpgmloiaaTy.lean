/-
  Types of data: how a value's cells are trees, tokens and frames; texts, numbers, lists of texts, lists of structs, fields one after the other.
-/
import Derived.Test.YtamcaplpgmloiaaLib
import Derived.ProofKit
namespace Go.Proofs.Ytamcaplpgmloiaa
namespace Abs

/-- the cells of a type -/
inductive Cl where
  | str
  | bool
  | int (k : IntKind)
  | sl (e : TypeId) (sz : Nat) (cs : List Cl)

inductive FitsL : List Cl → List Tr → Prop
  | nil : FitsL [] []
  | str (x : Str) (h : x.length ≤ maxLen) {cs : List Cl} {xs : List Tr} (hs : FitsL cs xs) : FitsL (.str :: cs) (.s x :: xs)
  | bool (b : Bool) {cs : List Cl} {xs : List Tr} (hs : FitsL cs xs) : FitsL (.bool :: cs) (.v (.bool b) :: xs)
  | int (k : IntKind) (n : Int) (h : (Lit.int k n).wf = true) {cs : List Cl} {xs : List Tr} (hs : FitsL cs xs) : FitsL (.int k :: cs) (.v (.int k n) :: xs)
  | sl (e sz : Nat) (c : List Cl) (es : List (List Tr)) (h : es.length ≤ maxLen) (hz : c.length = sz) (he : ∀ x ∈ es, FitsL c x) {cs : List Cl} {xs : List Tr} (hs : FitsL cs xs) :
      FitsL (.sl e sz c :: cs) (.l e sz es :: xs)

theorem FitsL.length {cs : List Cl} {xs : List Tr} (h : FitsL cs xs) : xs.length = cs.length := by induction h <;> simp_all
theorem FitsL.append {cs ds : List Cl} {xs ys : List Tr} (h : FitsL cs xs) (h' : FitsL ds ys) : FitsL (cs ++ ds) (xs ++ ys) := by
  induction h with
  | nil => exact h'
  | str x h _ ih => exact .str x h ih
  | bool b _ ih => exact .bool b ih
  | int k n h _ ih => exact .int k n h ih
  | sl e sz c es h hz he _ _ ih => exact .sl e sz c es h hz he ih
theorem FitsL.ok {cs : List Cl} {xs : List Tr} (h : FitsL cs xs) : okTL xs = true := by
  induction h with
  | nil => rfl
  | str x h _ ih => rw [okTL, okT, ih]; rfl
  | bool b _ ih => rw [okTL, okT, ih]; rfl
  | int k n h _ ih => rw [okTL, okT, ih]; rfl
  | sl e sz c es h hz he _ ih1 ih2 =>
    have h1 : es.all (fun e => e.length == sz) = true := List.all_eq_true.2 fun x hx => by rw [(he x hx).length, hz]; simp
    have h2 : okTLL es = true := by
      clear h hz h1
      induction es with
      | nil => rfl
      | cons x es ih => rw [okTLL, ih1 x (by simp), ih (fun y hy => he y (by simp [hy])) (fun y hy => ih1 y (by simp [hy]))]; rfl
    rw [okTL, okT, h1, h2, ih2]; rfl

variable {α β : Type}
theorem maxLen_le {n : Nat} (h : n ≤ maxLen) : n ≤ 9223372036854775807 := Nat.le_trans h (by decide +kernel)
def addTok (m : Nat) (k : Nat) : Option Nat := some (k + m)
theorem shift_eq (m : Nat) : shift m = mapT (addTok m) := rfl

/-- cells of a value (q), what stands for them where its slices are the call's own from token n on (tk), and these slices (fr) -/
structure Ty (α : Type) where
  sz : Nat
  q : α → List Tr
  tk : α → Nat → List AV
  fr : α → Fr
  size : α → Nat
  bd : α → Prop
  cl : List Cl
  hq : ∀ a, (q a).length = sz
  hok : ∀ a, okTL (q a) = true
  htk : ∀ a n, (tk a n).length = sz
  hnr : ∀ a n, ∀ c ∈ tk a n, noRef c = true
  hsh : ∀ a n m, mapTL (addTok m) (tk a n) = tk a (n + m)
  hse : ∀ a n, mapTL noTok (tk a n) = oldL (q a)
  hcl : ∀ xs, FitsL cl xs → ∃ a, xs = q a ∧ bd a
  hown : ∀ a n (F : Fr), (∀ i x, (fr a)[i]? = some x → F[n + i]? = some x) → ∃ ts, OwnA F (q a) (tk a n) ts ∧ ts.Perm (List.range' n (fr a).length)

theorem mapTL_append (f : Nat → Option Nat) (xs ys : List AV) : mapTL f (xs ++ ys) = mapTL f xs ++ mapTL f ys := by simp [mapTL_eq]
theorem okTL_append (xs ys : List Tr) : okTL (xs ++ ys) = (okTL xs && okTL ys) := by simp [okTL_all]
theorem oldL_append (xs ys : List Tr) : oldL (xs ++ ys) = oldL xs ++ oldL ys := by simp [oldL_eq]
theorem OwnA.append {F : Fr} {xs ys : List Tr} {cs ds : List AV} {ts us : List Nat} (h : OwnA F xs cs ts) (h' : OwnA F ys ds us) : OwnA F (xs ++ ys) (cs ++ ds) (ts ++ us) := by
  induction h with
  | nil => exact h'
  | v x hp _ ih => exact .v x hp ih
  | s x _ ih => exact .s x ih
  | nils t sz _ ih => exact .nils t sz ih
  | l t sz es k ys hk hl hs hy he _ _ ih => rw [List.append_assoc]; exact .l t sz es k ys hk hl hs hy he ih
  | a fs us _ _ _ ih => rw [List.append_assoc]; exact .a fs us ‹_› ih
  | av fs us h1 _ _ _ ih => rw [List.append_assoc]; exact .av fs us h1 ‹_› ih
  | p fs us _ _ _ ih => rw [List.append_assoc]; exact .p fs us ‹_› ih

def Ty.str : Ty Str where
  sz := 1
  q s := [.s s]
  tk s _ := [.str s]
  fr _ := []
  size s := s.length
  bd s := s.length ≤ 9223372036854775807
  cl := [.str]
  hcl xs h := by
    cases h with
    | str x h hs => cases hs; exact ⟨x, rfl, maxLen_le h⟩
  hq _ := rfl
  hok _ := rfl
  htk _ _ := rfl
  hnr _ _ c hc := by simp at hc; subst hc; rfl
  hsh _ _ _ := rfl
  hse _ _ := rfl
  hown a _ _ _ := ⟨_, .s a .nil, .refl _⟩
def Ty.int : Ty Int where
  sz := 1
  q n := [.v (.int .i64 n)]
  tk n _ := [.val (.int .i64 n)]
  fr _ := []
  size _ := 0
  bd n := (Lit.int .i64 n).wf = true
  cl := [.int .i64]
  hcl xs h := by
    cases h with
    | int k n h hs => cases hs; exact ⟨n, rfl, h⟩
  hq _ := rfl
  hok _ := rfl
  htk _ _ := rfl
  hnr _ _ c hc := by simp at hc; subst hc; rfl
  hsh _ _ _ := rfl
  hse _ _ := rfl
  hown a _ _ _ := ⟨_, .v _ rfl .nil, .refl _⟩
def Ty.bool : Ty Bool where
  sz := 1
  q n := [.v (.bool n)]
  tk n _ := [.val (.bool n)]
  fr _ := []
  size _ := 0
  bd _ := True
  cl := [.bool]
  hcl xs h := by
    cases h with
    | bool n hs => cases hs; exact ⟨n, rfl, trivial⟩
  hq _ := rfl
  hok _ := rfl
  htk _ _ := rfl
  hnr _ _ c hc := by simp at hc; subst hc; rfl
  hsh _ _ _ := rfl
  hse _ _ := rfl
  hown a _ _ _ := ⟨_, .v _ rfl .nil, .refl _⟩

/-- a slice whose elements are plain -/
theorem own_plain (T : Ty α) (h : ∀ a, T.fr a = []) (n : Nat) (F : Fr) : ∀ l : List α, OwnA F (l.map T.q).flatten (l.map fun a => T.tk a n).flatten []
  | [] => .nil
  | a :: l => by
    obtain ⟨ts, h1, h2⟩ := T.hown a n F (by simp [h])
    rw [h] at h2
    have : ts = [] := List.Perm.eq_nil h2
    subst this
    exact OwnA.append h1 (own_plain T h n F l)

/-- the elements of a slice, read -/
def rows (T : Ty α) (l : List α) : List (List AV) := oldLL (l.map T.q)
@[simp] theorem length_rows (T : Ty α) (l : List α) : (rows T l).length = l.length := by simp [rows]
def listSize (T : Ty α) : List α → Nat
  | [] => 0
  | a :: l => T.size a + listSize T l
theorem listSize_take_succ (T : Ty α) {l : List α} {i : Nat} {a : α} (hi : l[i]? = some a) : listSize T (l.take (i + 1)) = listSize T (l.take i) + T.size a := by
  induction l generalizing i with
  | nil => simp at hi
  | cons s l ih =>
    cases i with
    | zero => simp at hi; subst hi; simp [listSize]
    | succ i => simp only [List.take_succ_cons, listSize, ih (by simpa using hi)]; omega
theorem listSize_take_le (T : Ty α) (l : List α) (i : Nat) : listSize T (l.take i) ≤ listSize T l := by
  induction l generalizing i with
  | nil => simp
  | cons s l ih => cases i with
    | zero => simp [listSize]
    | succ i => simp only [List.take_succ_cons, listSize]; have := ih i; omega
theorem listSize_mem (T : Ty α) {l : List α} {a : α} (h : a ∈ l) : T.size a ≤ listSize T l := by
  induction l with
  | nil => cases h
  | cons x l ih =>
    rcases List.mem_cons.1 h with rfl | h
    · simp [listSize]
    · have := ih h; simp only [listSize]; omega

def tks (T : Ty α) : List α → Nat → List (List AV)
  | [], _ => []
  | a :: l, n => T.tk a n :: tks T l (n + (T.fr a).length)
def frs (T : Ty α) (l : List α) : Fr := l.flatMap T.fr
theorem length_tks (T : Ty α) : ∀ (l : List α) (n : Nat), (tks T l n).length = l.length
  | [], _ => rfl
  | a :: l, n => by simp [tks, length_tks T l]
theorem tks_append (T : Ty α) : ∀ (l m : List α) (n : Nat), tks T (l ++ m) n = tks T l n ++ tks T m (n + (frs T l).length)
  | [], m, n => by simp [tks, frs]
  | a :: l, m, n => by
    simp only [List.cons_append, tks, tks_append T l, frs, List.flatMap_cons, List.length_append, Nat.add_assoc]
theorem frs_append (T : Ty α) (l m : List α) : frs T (l ++ m) = frs T l ++ frs T m := by simp [frs]
theorem tks_sz (T : Ty α) : ∀ (l : List α) (n : Nat), ∀ x ∈ tks T l n, x.length = T.sz
  | [], _, _, h => by cases h
  | a :: l, n, x, h => by
    rcases List.mem_cons.1 h with rfl | h
    · exact T.htk a n
    · exact tks_sz T l _ x h
theorem tks_nr (T : Ty α) : ∀ (l : List α) (n : Nat), ∀ c ∈ (tks T l n).flatten, noRef c = true
  | [], _, _, h => by cases h
  | a :: l, n, c, h => by
    rw [tks, List.flatten_cons, List.mem_append] at h
    rcases h with h | h
    · exact T.hnr a n c h
    · exact tks_nr T l _ c h
theorem tks_sh (T : Ty α) (m : Nat) : ∀ (l : List α) (n : Nat), mapTLL (addTok m) (tks T l n) = tks T l (n + m)
  | [], _ => rfl
  | a :: l, n => by rw [tks, mapTLL, T.hsh, tks_sh T m l, tks]; congr 2; omega
theorem tks_se (T : Ty α) : ∀ (l : List α) (n : Nat), mapTLL noTok (tks T l n) = oldLL (l.map T.q)
  | [], _ => rfl
  | a :: l, n => by rw [tks, mapTLL, T.hse, tks_se T l]; rfl
theorem tks_own (T : Ty α) (F : Fr) : ∀ (l : List α) (n : Nat), (∀ i x, (frs T l)[i]? = some x → F[n + i]? = some x) → ∃ ts, OwnA F (l.map T.q).flatten (tks T l n).flatten ts ∧ ts.Perm (List.range' n (frs T l).length)
  | [], _, _ => ⟨_, .nil, .refl _⟩
  | a :: l, n, h => by
    obtain ⟨t1, h1, p1⟩ := T.hown a n F (fun i x hi => h i x (by rw [frs, List.flatMap_cons, List.getElem?_append_left (getElem?_lt hi)]; exact hi))
    obtain ⟨t2, h2, p2⟩ := tks_own T F l (n + (T.fr a).length) (fun i x hi => by
      have := h ((T.fr a).length + i) x (by rw [frs, List.flatMap_cons, List.getElem?_append_right (by omega), Nat.add_sub_cancel_left]; exact hi)
      rw [Nat.add_assoc]; exact this)
    refine ⟨t1 ++ t2, OwnA.append h1 h2, ?_⟩
    rw [show frs T (a :: l) = T.fr a ++ frs T l from rfl, List.length_append, ← List.range'_append_1]
    exact p1.append p2
theorem tks_get (T : Ty α) {l : List α} {i : Nat} {a : α} (n : Nat) (hi : l[i]? = some a) : (tks T l n)[i]? = some (T.tk a (n + (frs T (l.take i)).length)) := by
  induction l generalizing i n with
  | nil => simp at hi
  | cons b l ih =>
    cases i with
    | zero => simp at hi; subst hi; simp [tks, frs]
    | succ i =>
      simp only [tks, List.getElem?_cons_succ, List.take_succ_cons]
      rw [ih _ (by simpa using hi)]
      simp [frs, Nat.add_assoc]
theorem okTLL_map (T : Ty α) : ∀ l : List α, okTLL (l.map T.q) = true
  | [] => rfl
  | a :: l => by rw [List.map_cons, okTLL, T.hok, okTLL_map T l]; rfl
theorem ok_list (T : Ty α) (t : Nat) (l : List α) : okT (.l t T.sz (l.map T.q)) = true := by
  rw [okT, okTLL_map, Bool.and_true, List.all_eq_true]
  intro x hx
  obtain ⟨a, _, rfl⟩ := List.mem_map.1 hx
  simp [T.hq]

theorem fits_list (T : Ty α) (t : Nat) (xs : List Tr) (h : FitsL [.sl t T.sz T.cl] xs) : ∃ l : List α, xs = [.l t T.sz (l.map T.q)] ∧ (l.length ≤ 9223372036854775807 ∧ ∀ a ∈ l, T.bd a) := by
  cases h with
  | sl e sz c es h hz he hs =>
    cases hs
    have : ∃ l : List α, es = l.map T.q ∧ ∀ a ∈ l, T.bd a := by
      clear h
      induction es with
      | nil => exact ⟨[], rfl, by simp⟩
      | cons x es ih =>
        obtain ⟨l, rfl, hl⟩ := ih (fun y hy => he y (by simp [hy]))
        obtain ⟨a, rfl, ha⟩ := T.hcl x (he x (by simp))
        exact ⟨a :: l, rfl, by simpa [ha] using hl⟩
    obtain ⟨l, rfl, hl⟩ := this
    exact ⟨l, rfl, maxLen_le (by simpa using h), hl⟩
theorem FitsL.split {cs ds : List Cl} {xs : List Tr} (h : FitsL (cs ++ ds) xs) : ∃ ys zs, xs = ys ++ zs ∧ FitsL cs ys ∧ FitsL ds zs := by
  induction cs generalizing xs with
  | nil => exact ⟨[], xs, rfl, .nil, h⟩
  | cons c cs ih =>
    cases h with
    | str x h hs => obtain ⟨ys, zs, rfl, h1, h2⟩ := ih hs; exact ⟨_ :: ys, zs, rfl, .str x h h1, h2⟩
    | bool b hs => obtain ⟨ys, zs, rfl, h1, h2⟩ := ih hs; exact ⟨_ :: ys, zs, rfl, .bool b h1, h2⟩
    | int k n h hs => obtain ⟨ys, zs, rfl, h1, h2⟩ := ih hs; exact ⟨_ :: ys, zs, rfl, .int k n h h1, h2⟩
    | sl e sz c es h hz he hs => obtain ⟨ys, zs, rfl, h1, h2⟩ := ih hs; exact ⟨_ :: ys, zs, rfl, .sl e sz c es h hz he h1, h2⟩

/-- a list whose elements have slices of their own -/
def Ty.list (t : Nat) (T : Ty α) : Ty (List α) where
  sz := 1
  q l := [.l t T.sz (l.map T.q)]
  tk l n := [.list (some (n + (frs T l).length)) (tks T l n)]
  fr l := frs T l ++ [(t, T.sz, l.length)]
  size l := l.length + listSize T l
  bd l := l.length ≤ 9223372036854775807 ∧ ∀ a ∈ l, T.bd a
  cl := [.sl t T.sz T.cl]
  hcl := fits_list T t
  hq _ := rfl
  hok l := by rw [okTL, ok_list]; rfl
  htk _ _ := rfl
  hnr _ _ c hc := by simp at hc; subst hc; rfl
  hsh l n m := by
    rw [mapTL, mapTL, mapT, tks_sh]
    show [AV.list (some (n + (frs T l).length + m)) _] = _
    rw [Nat.add_right_comm]
  hse l n := by rw [mapTL, mapTL, mapT, tks_se]; rfl
  hown l n F h := by
    obtain ⟨ts, h1, p1⟩ := tks_own T F l n (fun i x hi => h i x (by rw [List.getElem?_append_left (getElem?_lt hi)]; exact hi))
    have h2 : F[n + (frs T l).length]? = some (t, T.sz, l.length) := h _ _ (by rw [List.getElem?_append_right (Nat.le_refl _), Nat.sub_self]; rfl)
    refine ⟨_, .l t T.sz (l.map T.q) (n + (frs T l).length) (tks T l n) (by rw [h2, List.length_map]) (by rw [length_tks, List.length_map]) (fun e he => ?_) (tks_sz T l n) h1 .nil, ?_⟩
    · obtain ⟨a, _, rfl⟩ := List.mem_map.1 he
      exact T.hq a
    · rw [List.append_nil, List.length_append, List.length_singleton, ← List.range'_append_1]
      exact (List.perm_append_comm (l₁ := [n + (frs T l).length]) (l₂ := ts)).trans (p1.append (.refl _))
/-- a list whose elements have none -/
def Ty.plain (t : Nat) (T : Ty α) (h : ∀ a, T.fr a = []) (e : ∀ a, T.tk a 0 = oldL (T.q a)) : Ty (List α) where
  sz := 1
  q l := [.l t T.sz (l.map T.q)]
  tk l n := [.list (some n) (oldLL (l.map T.q))]
  fr l := [(t, T.sz, l.length)]
  size l := l.length + listSize T l
  bd l := l.length ≤ 9223372036854775807 ∧ ∀ a ∈ l, T.bd a
  cl := [.sl t T.sz T.cl]
  hcl := fits_list T t
  hq _ := rfl
  hok l := by rw [okTL, ok_list]; rfl
  htk _ _ := rfl
  hnr _ _ c hc := by simp at hc; subst hc; rfl
  hsh l n m := by rw [mapTL, mapTL, mapT, mapTLL_old]; rfl
  hse l n := by rw [mapTL, mapTL, mapT, mapTLL_old]; rfl
  hown l n F h' := by
    have h2 : F[n]? = some (t, T.sz, l.length) := h' 0 _ rfl
    have h3 := own_plain T h 0 F l
    have e2 : (l.map fun a => T.tk a 0) = oldLL (l.map T.q) := by rw [oldLL_eq, List.map_map]; exact List.map_congr_left fun a _ => by rw [e, oldL_eq]; rfl
    rw [e2] at h3
    refine ⟨_, .l t T.sz (l.map T.q) n _ (by rw [h2, List.length_map]) (by simp) (fun e he => ?_) (oldLL_sz T.hq) h3 .nil, .refl _⟩
    obtain ⟨a, _, rfl⟩ := List.mem_map.1 he
    exact T.hq a
/-- fields, one after the other -/
def Ty.pair (T : Ty α) (U : Ty β) : Ty (α × β) where
  sz := T.sz + U.sz
  q a := T.q a.1 ++ U.q a.2
  tk a n := T.tk a.1 n ++ U.tk a.2 (n + (T.fr a.1).length)
  fr a := T.fr a.1 ++ U.fr a.2
  size a := T.size a.1 + U.size a.2
  bd a := T.bd a.1 ∧ U.bd a.2
  cl := T.cl ++ U.cl
  hcl xs h := by
    obtain ⟨ys, zs, rfl, h1, h2⟩ := h.split
    obtain ⟨a, rfl, ha⟩ := T.hcl _ h1
    obtain ⟨b, rfl, hb⟩ := U.hcl _ h2
    exact ⟨(a, b), rfl, ha, hb⟩
  hq a := by rw [List.length_append, T.hq, U.hq]
  hok a := by rw [okTL_append, T.hok, U.hok]; rfl
  htk a n := by rw [List.length_append, T.htk, U.htk]
  hnr a n c hc := by
    rcases List.mem_append.1 hc with h | h
    · exact T.hnr _ _ c h
    · exact U.hnr _ _ c h
  hsh a n m := by rw [mapTL_append, T.hsh, U.hsh, Nat.add_right_comm]
  hse a n := by rw [mapTL_append, T.hse, U.hse, oldL_append]
  hown a n F h := by
    obtain ⟨t1, h1, p1⟩ := T.hown a.1 n F (fun i x hi => h i x (by rw [List.getElem?_append_left (getElem?_lt hi)]; exact hi))
    obtain ⟨t2, h2, p2⟩ := U.hown a.2 (n + (T.fr a.1).length) F (fun i x hi => by
      have := h ((T.fr a.1).length + i) x (by rw [List.getElem?_append_right (by omega), Nat.add_sub_cancel_left]; exact hi)
      rw [Nat.add_assoc]; exact this)
    refine ⟨t1 ++ t2, OwnA.append h1 h2, ?_⟩
    rw [List.length_append, ← List.range'_append_1]
    exact p1.append p2

/-- a call that hands back a struct, or a list, of its own -/
theorem ACall.mkA (T : Ty α) {C : Con} {lend : Bool} {f : Nat} {vs : List AV} {b : List ABox} {fr : Fr} {k : AV → List ABox → Fr → Prop} (ys : List AV) (a : α) (h : C.ret f ys (.agg (T.tk a 0)) (T.fr a)) (hv : SeesL Sees0 vs ys)
    (hk : k (.agg (T.tk a fr.length)) b (fr ++ T.fr a)) : ACall C lend f vs b fr k :=
  .mk ys _ _ h hv (by rw [shift_eq, mapT, T.hsh, Nat.zero_add]; exact hk)
theorem ACall.mkV (T : Ty α) {C : Con} {lend : Bool} {f : Nat} {vs : List AV} {b : List ABox} {fr : Fr} {k : AV → List ABox → Fr → Prop} (ys : List AV) (a : α) (r : Nat → AV) (hr : ∀ n, T.tk a n = [r n]) (h : C.ret f ys (r 0) (T.fr a)) (hv : SeesL Sees0 vs ys)
    (hk : k (r fr.length) b (fr ++ T.fr a)) : ACall C lend f vs b fr k :=
  .mk ys _ _ h hv (by
    have := T.hsh a 0 fr.length
    rw [hr, hr, mapTL, mapTL, Nat.zero_add] at this
    rw [shift_eq, (List.cons.inj this).1]; exact hk)
theorem Ty.ownA (T : Ty α) {mo : Bool} {P : Program} {f : Nat} {args : List AV} {a : α} (h : Ret mo P f args (.agg (T.tk a 0)) (T.fr a)) : Own mo P f args (.a (T.q a)) := by
  obtain ⟨ts, h1, p1⟩ := T.hown a 0 (T.fr a) (fun i x hi => by rwa [Nat.zero_add])
  have := OwnA.a (T.q a) (T.tk a 0) h1 .nil
  rw [List.append_nil] at this
  exact h.own ts this (p1.symm.nodup (List.nodup_range' _))
theorem Ty.ownV (T : Ty α) {mo : Bool} {P : Program} {f : Nat} {args : List AV} {a : α} {x : Tr} {r : AV} (hx : T.q a = [x]) (hr : T.tk a 0 = [r]) (h : Ret mo P f args r (T.fr a)) : Own mo P f args x := by
  obtain ⟨ts, h1, p1⟩ := T.hown a 0 (T.fr a) (fun i x hi => by rwa [Nat.zero_add])
  rw [hx, hr] at h1
  exact h.own ts h1 (p1.symm.nodup (List.nodup_range' _))
end Abs
end Go.Proofs.Ytamcaplpgmloiaa
