/-
  Lists of strings, numbers and the like as slices; small laws for what the evaluator leaves.
-/
import Derived.Test.YtamcaplpgmloiaaIr
namespace Go.Proofs.Ytamcaplpgmloiaa
namespace Abs

mutual
theorem mapT_old : ∀ (f : Nat → Option Nat) (x : Tr), mapT f (old x) = old x
  | _, .v _ => rfl
  | _, .s _ => rfl
  | f, .l _ _ xs => by rw [old, mapT, mapTLL_old f xs]; rfl
  | f, .a fs => by rw [old, mapT, mapTL_old f fs]
  | f, .p fs => by rw [old, mapT, mapTL_old f fs]
theorem mapTL_old : ∀ (f : Nat → Option Nat) (xs : List Tr), mapTL f (oldL xs) = oldL xs
  | _, [] => rfl
  | f, x :: xs => by rw [oldL, mapTL, mapT_old f x, mapTL_old f xs]
theorem mapTLL_old : ∀ (f : Nat → Option Nat) (xs : List (List Tr)), mapTLL f (oldLL xs) = oldLL xs
  | _, [] => rfl
  | f, x :: xs => by rw [oldLL, mapTLL, mapTL_old f x, mapTLL_old f xs]
end
theorem Fork.dec {c : Prop} [Decidable c] {p q : Prop} (h : c → p) (k : ¬ c → q) : Fork (decide c) p q := ⟨fun e => h (of_decide_eq_true e), fun e => k (of_decide_eq_false e)⟩
theorem Fork.yes {b : Bool} {p q : Prop} (h : b = true) (k : p) : Fork b p q := ⟨fun _ => k, fun e => absurd (h.symm.trans e) (by decide)⟩
theorem Fork.no {b : Bool} {p q : Prop} (h : b = false) (k : q) : Fork b p q := ⟨fun e => absurd (h.symm.trans e) (by decide), fun _ => k⟩
theorem Fork.decYes {c : Prop} [Decidable c] {p q : Prop} (h : c) (k : p) : Fork (decide c) p q := .yes (decide_eq_true h) k
theorem Fork.decNo {c : Prop} [Decidable c] {p q : Prop} (h : ¬ c) (k : q) : Fork (decide c) p q := .no (decide_eq_false h) k
theorem bl_irrefl : ∀ s : Str, Op.bytesLess s s = false
  | [] => rfl
  | c :: s => by simp [Op.bytesLess, bl_irrefl s]
theorem Fork.neg {b : Bool} {p q : Prop} (h : b = false → p) (k : b = true → q) : Fork (!b) p q := ⟨fun e => h (by simpa using e), fun e => k (by simpa using e)⟩
theorem Fork.bne {a b : Int} {p q : Prop} (h : a ≠ b → p) (k : a = b → q) : Fork (a != b) p q := ⟨fun e => h (by simpa using e), fun e => k (by simpa using e)⟩
theorem Fork.beq {a b : Int} {p q : Prop} (h : a = b → p) (k : a ≠ b → q) : Fork (a == b) p q := ⟨fun e => h (by simpa using e), fun e => k (by simpa using e)⟩
theorem Fork.seq {a b : Str} {p q : Prop} (h : a = b → p) (k : a ≠ b → q) : Fork (a == b) p q := ⟨fun e => h (by simpa using e), fun e => k (by simpa using e)⟩
theorem Fork.sne {a b : Str} {p q : Prop} (h : a ≠ b → p) (k : a = b → q) : Fork (!(a == b)) p q := ⟨fun e => h (by simpa using e), fun e => k (by simpa using e)⟩

theorem forceK_of {x : AV} {k : AV → Prop} (h : k x) : forceK x k := by
  cases x with
  | list o xs => cases o <;> exact h
  | _ => exact h
theorem forceBx_of : ∀ {b : List ABox} {k : List ABox → Prop}, k b → forceBx b k
  | [], _, h => h
  | .cells _ _ :: r, _, h => forceBx_of (b := r) h
  | .iter _ _ :: r, _, h => forceBx_of (b := r) h
  | .dead :: r, _, h => forceBx_of (b := r) h
theorem BoxIn.last (pre bs : List ABox) : BoxIn (pre ++ bs) pre.length bs := fun i b hi => by
  rw [List.getElem?_append_right (by omega), Nat.add_sub_cancel_left]; exact hi
theorem BoxIn.more {b bs : List ABox} {n : Nat} (h : BoxIn b n bs) (c : List ABox) : BoxIn (b ++ c) n bs := fun i x hi => by
  rw [List.getElem?_append_left (getElem?_lt (h i x hi))]; exact h i x hi
theorem unG_old {gd : Bool} {x : Tr} {k : AV → Prop} (h : k (old x)) : unG gd (old x) k := by cases x <;> exact h
theorem unG_gv {gd : Bool} {x : Tr} {n : Nat} {k : AV → Prop} (h : k (gv x n)) : unG gd (gv x n) k := by cases x <;> exact h
theorem ACall.mkL {C : Con} {lend : Bool} {f : Nat} {vs : List AV} {b : List ABox} {fr : Fr} {k : AV → List ABox → Fr → Prop} (ys : List AV) (i : Nat) (xs : List (List Tr)) (frs : Fr) (h : C.ret f ys (.list (some i) (oldLL xs)) frs) (hv : SeesL Sees0 vs ys)
    (hk : k (.list (some (i + fr.length)) (oldLL xs)) b (fr ++ frs)) : ACall C lend f vs b fr k :=
  .mk ys _ frs h hv (by rw [show shift fr.length (.list (some i) (oldLL xs)) = .list (some (i + fr.length)) (oldLL xs) by unfold shift; rw [mapT, mapTLL_old]; rfl]; exact hk)
theorem ACall.turn' {C : Con} {f : Nat} {vs : List AV} {b : List ABox} {fr : Fr} {k : AV → List ABox → Fr → Prop} (b' : List ABox) (ys : List AV) (x x' : Tr) (r : AV) (pre post : List ABox) (h : C.turn f (gb x 0) ys r (gb x' 0)) (hr : isScalR r = true)
    (hb : b = pre ++ gb x pre.length ++ post) (hn : nb x' = nb x) (hv : SeesL (SeesM x pre.length) vs ys) (hb' : pre ++ gb x' pre.length ++ post = b') (hk : k r b' fr) : ACall C true f vs b fr k :=
  .turn rfl ys x x' r pre post h hr hb hn hv (hb' ▸ hk)
theorem fr1 {t s a b : Nat} (h : a = b) : [(t, s, a)] = [(t, s, b)] := by rw [h]
theorem fr2 {t s a b t' s' a' b' : Nat} (h : a = b) (h' : a' = b') : [(t, s, a), (t', s', a')] = [(t, s, b), (t', s', b')] := by rw [h, h']
theorem AV.int_congr {k : IntKind} {a b : Int} (h : a = b) : AV.val (.int k a) = AV.val (.int k b) := by rw [h]
theorem AV.bool_congr {a b : Bool} (h : a = b) : AV.val (.bool a) = AV.val (.bool b) := by rw [h]
theorem AV.str_congr {a b : Str} (h : a = b) : AV.str a = AV.str b := by rw [h]
theorem AV.list_congr {o : Option Nat} {a b : List (List AV)} (h : a = b) : AV.list o a = AV.list o b := by rw [h]
theorem AV.bsl_congr {j n j' n' : Nat} (h : j = j') (h' : n = n') : AV.bsl j n = AV.bsl j' n' := by rw [h, h']
theorem AV.tup2_congr {a b a' b' : AV} (h : a = b) (h' : a' = b') : AV.tup [a, a'] = AV.tup [b, b'] := by rw [h, h']

theorem wrap64 {x : Int} (h0 : -9223372036854775808 ≤ x) (h1 : x ≤ 9223372036854775807) : IntKind.i64.wrap x = x := by
  have := Go.IntWalk.i64_in x ⟨h0, h1⟩
  exact this

/-- an element of a slice whose elements are trees -/
theorem Ix.map {α : Type} [Inhabited α] {gd : Bool} {l : List α} {q : α → List Tr} {i : Int} {sz : Nat} {k : List AV → Prop} (hs : ∀ a, (q a).length = sz) (h : gd = true → 0 ≤ i ∧ i < l.length) (hk : k (oldL (q (l.getD i.toNat default)))) :
    Ix gd (oldLL (l.map q)) i sz k :=
  ⟨_, fun hg => by
    obtain ⟨h0, h1⟩ := h hg
    have : i.toNat < l.length := by omega
    refine ⟨h0, ?_, by rw [oldL_eq, List.length_map, hs]⟩
    rw [oldLL_eq]
    simp [this, oldL_eq], hk⟩
theorem Cut.map {α : Type} {gd : Bool} {l : List α} {q : α → List Tr} {lo hi : Int} {sz : Nat} {k : List (List AV) → Prop} (hs : ∀ a, (q a).length = sz) (h : gd = true → 0 ≤ lo ∧ lo ≤ hi ∧ hi ≤ l.length)
    (hk : k (oldLL (((l.take hi.toNat).drop lo.toNat).map q))) : Cut gd (oldLL (l.map q)) lo hi sz k :=
  ⟨_, fun hg => by
    obtain ⟨h0, h1, h2⟩ := h hg
    refine ⟨h0, h1, by rw [oldLL_eq, List.length_map, List.length_map]; exact h2, fun c hc => ?_, by simp [oldLL_eq]⟩
    rw [oldLL_eq] at hc
    obtain ⟨e, he, rfl⟩ := List.mem_map.1 hc
    obtain ⟨a, _, rfl⟩ := List.mem_map.1 he
    rw [List.length_map, hs], hk⟩
@[simp] theorem length_oldLL (xs : List (List Tr)) : (oldLL xs).length = xs.length := by rw [oldLL_eq]; simp
theorem oldLL_append (a b : List (List Tr)) : oldLL (a ++ b) = oldLL a ++ oldLL b := by simp [oldLL_eq]
theorem oldLL_sz {α : Type} {l : List α} {q : α → List Tr} {sz : Nat} (hs : ∀ a, (q a).length = sz) : ∀ c ∈ oldLL (l.map q), c.length = sz := by
  intro c hc
  rw [oldLL_eq] at hc
  obtain ⟨e, he, rfl⟩ := List.mem_map.1 hc
  obtain ⟨a, _, rfl⟩ := List.mem_map.1 he
  rw [List.length_map, hs]

theorem Sees0.old (x : Tr) : Sees0 (old x) (old x) := Sees0.erase (mapT_old _ x)
theorem Sees0.olds (o : Option Nat) (xs : List (List Tr)) : Sees0 (.list o (oldLL xs)) (.list none (oldLL xs)) := Sees0.list (mapTLL_old _ xs)
theorem Sees0.oldagg (xs : List Tr) : Sees0 (.agg (oldL xs)) (.agg (oldL xs)) := Sees0.erase (by show AV.agg (mapTL noTok (oldL xs)) = _; rw [mapTL_old])

theorem rep_string {B : Nat} {w : World} {F : Nat → Nat} {box : List BId} (s : ByteArray) : Rep B w F [] [] box (.str s.data.toList) (.string s) := by
  have : Value.string s = mkS s.data.toList := by unfold mkS; simp
  rw [this]; exact .str _

/-- texts -/
def sq (x : Str) : List Tr := [.s x]
def strs (l : List Str) : List (List AV) := oldLL (l.map sq)
@[simp] theorem length_strs (l : List Str) : (strs l).length = l.length := by simp [strs]
theorem strs_eq (l : List Str) : strs l = l.map fun s => [.str s] := by simp [strs, oldLL_eq, sq, old]
theorem strs_append (a b : List Str) : strs (a ++ b) = strs a ++ strs b := by simp [strs_eq]
theorem strs_cons (a : Str) (b : List Str) : strs (a :: b) = [.str a] :: strs b := rfl
theorem strs_nil : strs [] = [] := rfl
@[simp] theorem strs_sz (l : List Str) : ∀ c ∈ strs l, c.length = 1 := oldLL_sz (fun _ => rfl)
theorem Ix.strs {gd : Bool} {l : List Str} {i : Int} {sz : Nat} {k : List AV → Prop} (hs : 1 = sz) (h : gd = true → 0 ≤ i ∧ i < l.length) (hk : k [.str (l.getD i.toNat [])]) : Ix gd (Abs.strs l) i sz k :=
  Ix.map (q := sq) (fun _ => hs) h hk
theorem Cut.strs {gd : Bool} {l : List Str} {lo hi : Int} {sz : Nat} {k : List (List AV) → Prop} (hs : 1 = sz) (h : gd = true → 0 ≤ lo ∧ lo ≤ hi ∧ hi ≤ l.length) (hk : k (Abs.strs ((l.take hi.toNat).drop lo.toNat))) : Cut gd (Abs.strs l) lo hi sz k :=
  Cut.map (q := sq) (fun _ => hs) h hk

/-- one more element of a list -/
theorem take_succ' {α : Type} {l : List α} {i : Nat} (d : α) (h : i < l.length) : l.take (i + 1) = l.take i ++ [l.getD i d] := by
  rw [List.take_succ_eq_append_getElem h]
  simp [List.getD, h]
theorem foldl_take_succ {α β : Type} {l : List α} {i : Nat} (d : α) (f : β → α → β) (b : β) (h : i < l.length) : (l.take (i + 1)).foldl f b = f ((l.take i).foldl f b) (l.getD i d) := by
  rw [take_succ' d h, List.foldl_append]; rfl
end Abs
end Go.Proofs.Ytamcaplpgmloiaa
