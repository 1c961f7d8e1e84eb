/-
  What stands below some laws' proofs, part 2: contracts of functions, by an evaluator.
-/
import Derived.Test.YtoindmahilbalaaGreatZX1
namespace Go.Proofs.YtoindmahilbalaaGreat
open Abs
abbrev VPair := Str × Str
instance : DecidableEq VPair := instDecidableEqProd
def tPair : Ty VPair := Ty.pair Ty.str Ty.str
theorem tPair_size (a : VPair) : tPair.size a = a.1.length + a.2.length := rfl
theorem tPair_cn : CnB tPair 2 := CnB.pair CnB.str CnB.str
def tPairs : Ty (List VPair) := Ty.plain 141 tPair (fun _ => rfl) (fun _ => rfl)
theorem tPairs_sz (l : List VPair) : tPairs.size l = l.length + listSize tPair l := rfl
theorem tPair_get {l : List VPair} {i : Nat} (hi : i < l.length) : l[i]? = some (l.getD i default) := by simp [List.getD, hi]
theorem tPair_le {l : List VPair} {i : Nat} (hi : i < l.length) : tPair.size (l.getD i default) ≤ listSize tPair l := listSize_mem tPair (List.mem_of_getElem? (tPair_get hi))
theorem eqPair.big (f g : VPair) (h : tPair.size f ≤ 1099511627775) : eqPair.Ret [.agg (oldL (tPair.q f)), .agg (oldL (tPair.q g))] (.val (.bool (decide (f = g)))) [] := by
 refine eqPair.ir.of rfl ?_
 have hz := tPair_size f
 repeat' first
  | (conv => whnf
     first | refine Fork.sne (fun _ => ?_) (fun _ => ?_) | refine FinVal.keep ?_ | refine Final.mk ?_ rfl)
  | refine AV.bool_congr ?_
 all_goals first
  | omega
  | (simp only [tStrs_size, tInts_size] at *; omega)
  | (obtain ⟨x0, x1⟩ := f; obtain ⟨y0, y1⟩ := g; simp_all)
theorem eqPairS.big (l m : List VPair) (h : tPairs.size l ≤ 1099511627775) : eqPairS.Ret [.list none (rows tPair l), .list none (rows tPair m)] (.val (.bool (decide (l = m)))) [] := by
 refine eqPairS.ir.of rfl ?_
 rw [tPairs_sz] at h
 repeat' first
  | (conv => whnf
     first | refine Need.mk rfl ?_ | refine Fork.bne (fun _ => ?_) (fun _ => ?_) | refine FinVal.keep ?_ | refine Final.mk ?_ rfl)
  | refine AV.bool_congr ?_
 ·rename_i h
  rw [length_rows, length_rows] at h
  have h3 : ¬ l = m := fun e => h (by rw [e])
  simp [h3]
 rename_i h
 rw [length_rows, length_rows] at h
 have h : l.length = m.length := by omega
 skip
 refine ALoop.mk Nat (fun i => ⟨[(0, .list none (rows tPair l)), (1, .list none (rows tPair m)), (5, .val (.int .i64 i))], [], []⟩) (fun i => i ≤ l.length ∧ l.take i = m.take i) (fun i => l.length - i) ⟨0, ⟨Nat.zero_le _, rfl⟩, ?_⟩ (fun i hi => ?_)
 ·repeat' first
   | exact trivial | refine wl_ ?_ ?_ ?_ ?_ | refine And.intro ?_ ?_ | with_reducible rfl | exact ble_ | refine AV.int_congr ?_ | refine AV.list_congr ?_ | (apply rfl)
 repeat' first
  | (conv => whnf
     first | refine Need.mk rfl ?_ | refine nb_ ?_ | refine Ix.mapF (fun _ => rfl) ?_ | refine Fork.dec (fun _ => ?_) (fun _ => ?_) | refine Fork.neg (fun _ => ?_) (fun _ => ?_) | refine Round.mk ?_ | refine FinVal.keep ?_ | refine Final.mk ?_ rfl | refine AQCall.mkA _ _ (fun hg => eqPair.big _ _ ?_) rfl ?_)
  | refine AV.bool_congr ?_
 ·rename_i h1
  rw [length_rows] at h1
  have := listSize_mem tPair (List.mem_of_getElem? (tPair_get (l := l) (i := i) (by omega)))
  rw [Int.toNat_natCast]; omega
 ·rename_i h1 h2
  have h3 : ¬ l = m := fun e => of_decide_eq_false h2 (by rw [e])
  simp [h3]
 ·rename_i h1 h2
  rw [length_rows] at h1
  rw [Int.toNat_natCast] at h2
  refine ⟨i + 1, ⟨by omega, ?_⟩, ?_, by omega⟩
  ·rw [take_succ' default (by omega), take_succ' (l := m) default (by omega), hi.2, of_decide_eq_true h2]
  ·repeat' first
    | exact trivial | refine wl_ ?_ ?_ ?_ ?_ | refine And.intro ?_ ?_ | with_reducible rfl | exact ble_ | refine AV.int_congr ?_ | refine AV.list_congr ?_ | (apply rfl)
   rw [wrap64 (by omega) (by omega)]; rfl
 ·rename_i h1
  rw [length_rows] at h1
  have h2 := hi.2
  rw [List.take_of_length_le (by omega), List.take_of_length_le (by omega)] at h2
  simp [h2]
theorem markPairS.tn (l : List VPair) (k : Nat) (hs : tPairs.size l ≤ 1099511627775) (hk : k + cn (.l 141 2 (l.map tPair.q)) ≤ 1099511627775) :
 markPairS.Turn (gb (.l 141 2 (l.map tPair.q)) 0) [gv (.l 141 2 (l.map tPair.q)) 0, .val (.int .i64 k)] (.val (.int .i64 ((k + cn (.l 141 2 (l.map tPair.q)) : Nat)))) (gb (mk (.l 141 2 (l.map tPair.q)) k) 0) := by
 refine markPairS.ofT rfl rfl (by rw [length_gb, nb_mk]) ?_
 obtain ⟨cs, hcs⟩ : ∃ cs, cs = (l.map tPair.q).flatten := ⟨_, rfl⟩
 have hlen : cs.length = l.length * 2 := by rw [hcs]; exact flat_len _ 2 tPair.hq l
 have hc0 : ∀ i, i < l.length → cs[i * 2 + 0]? = some (.s (l.getD i default).1) := fun i hi => by rw [hcs]; exact cell_at tPair.q 2 tPair.hq hi rfl
 have hc1 : ∀ i, i < l.length → cs[i * 2 + 1]? = some (.s (l.getD i default).2) := fun i hi => by rw [hcs]; exact cell_at tPair.q 2 tPair.hq hi rfl
 rw [gb_mk_l0, gb_l0, cn_l, gv, List.length_map, ← hcs]
 rw [cn_l, ← hcs] at hk
 clear hcs
 skip
 refine ALoop.mk Nat (fun i => ⟨[(0, .bsl 0 l.length), (1, .val (.int .i64 ((k + cnC (cs.take (i * 2)) : Nat)))), (5, .val (.int .i64 i))], .cells (.row 141 2) (gvL (st cs k (i * 2)) 1) :: gbL (st cs k (i * 2)) 1, []⟩) (fun i => i ≤ l.length) (fun i => l.length - i) ⟨0, Nat.zero_le _, ?_⟩ (fun i hi => ?_)
 ·refine weak_st ⟨rfl, ?_, rfl, trivial⟩ ?_ ?_ rfl ?_
  ·rw [Nat.zero_mul]; rfl
  ·rw [Nat.zero_mul, st_zero]
  ·rw [Nat.zero_mul, st_zero]
  ·rw [Nat.zero_mul, st_zero, List.length_cons]; exact Nat.le_refl _
 have hle := cn_take_le cs (i * 2)
 rw [tPairs_sz] at hs
 rcases Nat.lt_or_ge i l.length with hlt | hge
 rotate_left
 ·have hiw : i * 2 = cs.length := by omega
  repeat' first
   | (conv => whnf
      first | refine Need.mk rfl ?_ | refine Fork.decNo (by omega) ?_ | refine forceBx_of ?_ | refine FinalT.mk ?_ ?_)
   | refine AV.int_congr ?_
  ·rw [hiw, List.take_length]
  ·rw [hiw, st_all cs k rfl]; exact take_all (by rw [List.length_cons, List.length_cons, length_gbL, length_gbL, nbL_mkC]; exact Nat.le_refl _)
 have hi1 : (i + 1) * 2 = i * 2 + 2 := by omega
 have hsz := tPair_le hlt
 have hz6 := tPair_size (l.getD i default)
 repeat' first
  | (conv => whnf
     first | refine Need.mk rfl ?_ | refine Fork.decYes (by omega) ?_ | refine forceBx_of ?_)
 have l0 := cn_take_le cs (i * 2 + 1)
 have n0 : cnC (cs.take (i * 2 + 1)) = cnC (cs.take (i * 2)) + 1 := cn_succ (hc0 i hlt)
 have w0 : IntKind.i64.wrap (((k + cnC (cs.take (i * 2)) : Nat) : Int) + 1) = ((k + cnC (cs.take (i * 2 + 1)) : Nat) : Int) := by rw [wrap64 (by omega) (by omega)]; omega
 have b0 : gbL (st cs k (i * 2 + 1)) 1 = gbL (st cs k (i * 2)) 1 := gbL_st k 1 (hc0 i hlt) rfl
 have g0 : gvL (st cs k (i * 2 + 1)) 1 = (gvL (st cs k (i * 2)) 1).set (i * 2) (.str (markF (k + cnC (cs.take (i * 2))))) := gvL_st k 1 (hc0 i hlt)
 conv => whnf
 refine ACall.scal [.val (.int .i64 ((k + cnC (cs.take (i * 2)) : Nat)))] _ (markText.ret (k + cnC (cs.take (i * 2))) (by omega)) rfl (.cons (SeesB.of0 (by exact Sees0.val _)) .nil) ?_
 repeat' first
  | (conv => whnf
     first | refine Need.mk rfl ?_ | refine Need.fin ?_ | refine Need.mk ⟨rfl, by simp only [length_setAt, List.length_set, length_gvL, length_st, Int.toNat_natCast]; omega⟩ ?_)
 have l1 := cn_take_le cs (i * 2 + 2)
 have n1 : cnC (cs.take (i * 2 + 2)) = cnC (cs.take (i * 2 + 1)) + 1 := cn_succ (hc1 i hlt)
 have w1 : IntKind.i64.wrap (IntKind.i64.wrap (((k + cnC (cs.take (i * 2)) : Nat) : Int) + 1) + 1) = ((k + cnC (cs.take (i * 2 + 2)) : Nat) : Int) := by rw [w0, wrap64 (by omega) (by omega)]; omega
 have b1 : gbL (st cs k (i * 2 + 2)) 1 = gbL (st cs k (i * 2 + 1)) 1 := gbL_st k 1 (hc1 i hlt) rfl
 have g1 : gvL (st cs k (i * 2 + 2)) 1 = (gvL (st cs k (i * 2 + 1)) 1).set (i * 2 + 1) (.str (markF (k + cnC (cs.take (i * 2 + 1))))) := gvL_st k 1 (hc1 i hlt)
 conv => whnf
 refine ACall.scal [.val (.int .i64 ((k + cnC (cs.take (i * 2 + 1)) : Nat)))] _ (markText.ret (k + cnC (cs.take (i * 2 + 1))) (by omega)) rfl (.cons (SeesB.of0 (by rw [w0]; exact Sees0.val _)) .nil) ?_
 repeat' first
  | (conv => whnf
     first | refine Need.mk rfl ?_ | refine Need.fin ?_ | refine Need.mk ⟨rfl, by simp only [length_setAt, List.length_set, length_gvL, length_st, Int.toNat_natCast]; omega⟩ ?_ | refine Round.mk ?_)
 refine ⟨i + 1, by omega, weak_st ⟨rfl, AV.int_congr ?_, AV.int_congr ?_, trivial⟩ (congrArg (ABox.cells (.row 141 2)) ?_) ?_ rfl ?_, by omega⟩
 ·rw [hi1]; exact w1
 ·rw [wrap64 (by omega) (by omega)]; rfl
 ·rw [hi1, g1, g0]
  try rfl
 ·rw [hi1, b1, b0]
 ·simp only [hi1, List.length_cons, length_gbL, nbL_st, Nat.le_refl]
theorem heldPairS.hd (l : List VPair) (k : Nat) (hs : tPairs.size l ≤ 1099511627775) (hk : k + cn (.l 141 2 (l.map tPair.q)) ≤ 1099511627775) : heldPairS.Ret [old (mk (.l 141 2 (l.map tPair.q)) k), .val (.int .i64 k)] (.val (.int .i64 ((k + cn (.l 141 2 (l.map tPair.q)) : Nat)))) [] := by
 refine heldPairS.ir.ofS rfl rfl ?_
 have hl : (oldLL (mkLL (l.map tPair.q) k)).length = l.length := by rw [length_oldLL, length_mkLL, List.length_map]
 change k + cnLL (l.map tPair.q) ≤ _ at hk
 show aCode _ _ _ _ (doneS _ (.val (.int .i64 ((k + cnLL (l.map tPair.q) : Nat))))) ⟨argEnv 0 [.list none (oldLL (mkLL (l.map tPair.q) k)), .val (.int .i64 k)], [], []⟩
 skip
 refine ALoop.mk Nat (fun i => ⟨[(0, .list none (oldLL (mkLL (l.map tPair.q) k))), (1, .val (.int .i64 ((k + cnLL ((l.map tPair.q).take i) : Nat)))), (5, .val (.int .i64 i))], [], []⟩) (fun i => i ≤ l.length) (fun i => l.length - i) ⟨0, Nat.zero_le _, ?_⟩ (fun i hi => ?_)
 ·repeat' first
   | exact trivial | refine wl_ ?_ ?_ ?_ ?_ | refine And.intro ?_ ?_ | with_reducible rfl | exact ble_ | refine AV.int_congr ?_ | refine AV.list_congr ?_ | (apply rfl)
 rw [tPairs_sz] at hs
 rcases Nat.lt_or_ge i l.length with hlt | hge
 rotate_left
 ·have hil : (l.map tPair.q).take i = l.map tPair.q := List.take_of_length_le (by rw [List.length_map]; exact hge)
  repeat' first
   | (conv => whnf
      first | refine Need.mk rfl ?_ | refine Fork.decNo (by omega) ?_ | refine FinVal.keep ?_ | refine Final.mk ?_ rfl)
   | refine AV.int_congr ?_
  rw [hil]
 have hx : (l.map tPair.q)[i]? = some (tPair.q (l.getD i default)) := by rw [List.getElem?_map, tPair_get hlt]; rfl
 have hle := cnLL_take_le (l.map tPair.q) (i + 1)
 have hn := cnLL_succ hx
 have hsz := tPair_le hlt
 have hz7 := tPair_size (l.getD i default)
 obtain ⟨K, hK⟩ : ∃ K, K = k + cnLL ((l.map tPair.q).take i) := ⟨_, rfl⟩
 have hix : (0 : Int) ≤ (i : Int) ∧ (oldLL (mkLL (l.map tPair.q) k))[(i : Int).toNat]? = some (oldL (mkC (tPair.q (l.getD i default)) K)) ∧ (oldL (mkC (tPair.q (l.getD i default)) K)).length = 2 := by
  refine ⟨by omega, ?_, by rw [oldL_eq, List.length_map, length_mkC, tPair.hq]; rfl⟩
  rw [Int.toNat_natCast, oldLL_eq, List.getElem?_map, mkLL_get _ _ _ _ hx, oldL_eq, hK]; rfl
 have hKn : k + cnLL ((l.map tPair.q).take (i + 1)) = K + 1 + 1 := by
  rw [hn, ← Nat.add_assoc, ← hK]
  show K + (1 + (1 + (0))) = _
  simp only [Nat.add_assoc, Nat.add_zero]
 rw [← hK]
 have w0 : IntKind.i64.wrap (((K : Nat) : Int) + 1) = ((K + 1 : Nat) : Int) := by rw [wrap64 (by omega) (by omega)]; omega
 repeat' first
  | (conv => whnf
     first | refine Need.mk rfl ?_ | refine Ix.mk _ (fun _ => hix) ?_ | refine Fork.decYes (by omega) ?_)
 conv => whnf
 first
  | refine AQCall.mk [.val (.int .i64 ((K : Nat)))] _ (fun _ => markText.ret (K) (by omega)) rfl (fun _ => .cons (SeesB.of0 (by exact Sees0.val _)) .nil) ?_
  | refine ACall.scal [.val (.int .i64 ((K : Nat)))] _ (markText.ret (K) (by omega)) rfl (.cons (SeesB.of0 (by exact Sees0.val _)) .nil) ?_
 conv => whnf
 refine Fork.sne (fun h => absurd rfl h) (fun _ => ?_)
 have w1 : IntKind.i64.wrap (IntKind.i64.wrap (((K : Nat) : Int) + 1) + 1) = ((K + 1 + 1 : Nat) : Int) := by rw [w0, wrap64 (by omega) (by omega)]; omega
 repeat' first
  | (conv => whnf
     first | refine Need.mk rfl ?_ | refine Ix.mk _ (fun _ => hix) ?_)
 conv => whnf
 first
  | refine AQCall.mk [.val (.int .i64 ((K + 1 : Nat)))] _ (fun _ => markText.ret (K + 1) (by omega)) rfl (fun _ => .cons (SeesB.of0 (by rw [w0]; exact Sees0.val _)) .nil) ?_
  | refine ACall.scal [.val (.int .i64 ((K + 1 : Nat)))] _ (markText.ret (K + 1) (by omega)) rfl (.cons (SeesB.of0 (by rw [w0]; exact Sees0.val _)) .nil) ?_
 conv => whnf
 refine Fork.sne (fun h => absurd rfl h) (fun _ => ?_)
 repeat' first
  | (conv => whnf
     first | refine Need.mk rfl ?_ | refine Round.mk ?_)
 refine ⟨i + 1, by omega, ?_, by omega⟩
 repeat' first
  | exact trivial | refine wl_ ?_ ?_ ?_ ?_ | refine And.intro ?_ ?_ | with_reducible rfl | exact ble_ | refine AV.int_congr ?_ | refine AV.list_congr ?_ | (apply rfl)
 ·rw [hKn]; exact w1
 ·rw [wrap64 (by omega) (by omega)]; rfl
open Abs
abbrev VToken := List Fct × List VPair
instance : DecidableEq VToken := instDecidableEqProd
def tToken : Ty VToken := Ty.pair tFcts tPairs
theorem tToken_size (a : VToken) : tToken.size a = tFcts.size a.1 + tPairs.size a.2 := rfl
def tTokens : Ty (List VToken) := Ty.list 90 tToken
theorem tToken_get {l : List VToken} {i : Nat} (hi : i < l.length) : l[i]? = some (l.getD i default) := by simp [List.getD, hi]
theorem Abs.ACall.mk_Token {C : Con} {lend : Bool} {f : Nat} {vs : List AV} {b : List ABox} {fr : Fr} {k : AV → List ABox → Fr → Prop} (ys : List AV) (a : VToken) (h : C.ret f ys (.agg (tToken.tk a 0)) (tToken.fr a)) (hv : SeesL Sees0 vs ys)
 (hk : k (.agg (tToken.tk a fr.length)) b (fr ++ tToken.fr a)) : ACall C lend f vs b fr k := ACall.mkA tToken ys a h hv hk
theorem Abs.ACall.mk_TokenS {C : Con} {lend : Bool} {f : Nat} {vs : List AV} {b : List ABox} {fr : Fr} {k : AV → List ABox → Fr → Prop} (ys : List AV) (l : List VToken) (h : C.ret f ys (.list (some (0 + (frs tToken l).length)) (tks tToken l 0)) (tTokens.fr l)) (hv : SeesL Sees0 vs ys)
 (hk : k (.list (some (fr.length + (frs tToken l).length)) (tks tToken l fr.length)) b (fr ++ tTokens.fr l)) : ACall C lend f vs b fr k :=
 ACall.mkV tTokens ys l (fun n => .list (some (n + (frs tToken l).length)) (tks tToken l n)) (fun _ => rfl) h hv hk
open Abs
def sTokensOf.code : ACode := (q_ (r_ [s 3 (.box (t 0)), s 6 (.mv (.const (.slice none 0 0)))]) (q_ (q_ (r_ [s 7 (a_ 4 3), s 8 (.call 48 [t 7]), s 9 (.not (t 8)), v_ 10 9, g 10 false 11 (.mv (t 2)), g 10 false 12 (.call 49 [t 11]), g 10 false 13 (.not (t 12)), s 14 (.or (t 10) (t 13)), v_ 15 14, g 15 false 16 (.mv (t 1)), g 15 false 17 (f_ 2 3), g 15 false 18 (l_ 17), g 15 false 19 (.len false (t 18)), g 15 false 20 (.call 50 [t 16, (i_ 0), t 19]), g 15 false 21 (.not (t 20)), s 22 (.or (t 15) (t 21))]) (.cond (t 22) (q_ (r_ [s 23 (.bslice 90 2 true []), v_ 6 23]) .ret) .skip)) (q_ (r_ [s 24 (f_ 2 3), s 25 (l_ 24), v_ 26 1, s 27 (.slice false 5 (t 25) none (some (t 26))), v_ 28 2, s 29 (.call 51 [t 27, t 28]), v_ 6 29]) .ret)))
theorem sTokensOf.ir : IrAt Tryz.prog 11 sTokensOf.code [0, 1, 2, 3, 6] [.tmp 6] Tryz.f11.ntmps := ir_ Tryz.func11
abbrev sTokensOf.Own (args : List AV) (x : Tr) : Prop := Abs.Own true Tryz.prog 11 args x
def pTokensOf.code : ACode := (q_ (r_ [s 3 (.box (t 0)), s 6 (.mv (.const (.slice none 0 0)))]) (q_ (q_ (r_ [s 7 (a_ 4 3), s 8 (.call 55 [t 7]), s 9 (.not (t 8)), v_ 10 9, g 10 false 11 (.mv (t 2)), g 10 false 12 (.call 56 [t 11]), g 10 false 13 (.not (t 12)), s 14 (.or (t 10) (t 13)), v_ 15 14, g 15 false 16 (.mv (t 1)), g 15 false 17 (.bin .lss (t 16) (i_ 0)), s 18 (.or (t 15) (t 17)), v_ 19 18, g 19 false 20 (.mv (t 1)), g 19 false 21 (f_ 2 3), g 19 false 22 (l_ 21), g 19 false 23 (.len false (t 22)), g 19 false 24 (.bin .gtr (t 20) (t 23)), s 25 (.or (t 19) (t 24))]) (.cond (t 25) (q_ (r_ [s 26 (.bslice 90 2 true []), v_ 6 26]) .ret) .skip)) (q_ (r_ [s 27 (f_ 2 3), s 28 (l_ 27), v_ 29 1, s 30 (.slice false 5 (t 28) none (some (t 29))), v_ 31 2, s 32 (.call 57 [t 30, t 31]), v_ 6 32]) .ret)))
theorem pTokensOf.ir : IrAt Tryz.prog 14 pTokensOf.code [0, 1, 2, 3, 6] [.tmp 6] Tryz.f14.ntmps := ir_ Tryz.func14
abbrev pTokensOf.OwnN (args : List AV) (x : Tr) : Prop := Abs.Own false Tryz.prog 14 args x
def sMatchesOf.code : ACode := (q_ (r_ [s 2 (.box (t 0)), s 4 (.mv (.const (.slice none 0 0)))]) (q_ (r_ [s 8 (.bslice 65 3 true []), v_ 5 8]) (q_ (r_ [s 9 (a_ 4 2), s 10 (f_ 2 2), s 11 (l_ 10), s 12 (.len false (t 11)), v_ 13 1, s 14 (.call 11 [t 9, t 12, t 13]), v_ 6 14]) (q_ (q_ (r_ [s 7 (.mv (i_ 0))]) (.block 0 (.loop (q_ (q_ (r_ [v_ 15 7, v_ 16 6, s 17 (.len false (t 16)), s 18 (.bin .lss (t 15) (t 17))]) (.cond (t 18) .skip (.exit 0))) (q_ (.block 1 (.held [v_ 21 5, s 22 (f_ 0 2), s 23 (l_ 22), v_ 24 6, v_ 25 7, s 26 (.iadr 2 (t 24) (t 25)), s 27 (f_ 0 26), s 28 (l_ 27), v_ 29 6, v_ 30 7, s 31 (.iadr 2 (t 29) (t 30)), s 32 (f_ 1 31), s 33 (l_ 32), s 34 (.build [(.string (.mk (.mk []))), (.slice none 0 0), (.slice none 0 0)] [(0, 1), (1, 1), (2, 1)] [t 23, t 28, t 33]), s 35 (.bslice 65 3 false [t 34])] [s 36 (.append 65 3 64 (t 21) (t 35)), v_ 5 36])) (r_ [v_ 19 7, s 20 (.bin .add (t 19) (i_ 1)), v_ 7 20])))))) (q_ (r_ [v_ 37 5, v_ 4 37]) .ret)))))
theorem sMatchesOf.ir : IrAt Tryz.prog 22 sMatchesOf.code [0, 1, 2, 4, 5, 6, 7] [.tmp 4] Tryz.f22.ntmps := ir_ Tryz.func22
abbrev sMatchesOf.Own (args : List AV) (x : Tr) : Prop := Abs.Own true Tryz.prog 22 args x
def pMatchesOf.code : ACode := (q_ (r_ [s 2 (.box (t 0)), s 4 (.mv (.const (.slice none 0 0)))]) (q_ (r_ [s 9 (a_ 4 2), s 10 (f_ 2 2), s 11 (l_ 10), s 12 (.len false (t 11)), v_ 13 1, s 14 (.call 14 [t 9, t 12, t 13]), v_ 5 14]) (q_ (r_ [v_ 15 5, s 16 (.len false (t 15)), s 17 (.make 65 [(.string (.mk (.mk []))), (.slice none 0 0), (.slice none 0 0)] 3 64 (t 16)), v_ 6 17]) (q_ (q_ (r_ [v_ 18 5, s 19 (.len false (t 18)), s 20 (.mv (i_ 0))]) (.block 0 (.loop (q_ (r_ [s 21 (.bin .lss (t 20) (t 19))]) (q_ (.cond (t 21) .skip (.exit 0)) (q_ (.block 1 (q_ (r_ [v_ 22 20, s 23 (.iadr 2 (t 18) (t 20)), s 24 (a_ 2 23), s 8 (.alloc [(.slice none 0 0), (.slice none 0 0)]), v_ 7 22, ⟨none, none, (.store 2 (t 8) (t 24))⟩]) (r_ [v_ 25 6, v_ 26 7, s 27 (f_ 0 2), s 28 (l_ 27), s 29 (f_ 0 8), s 30 (l_ 29), s 31 (f_ 1 8), s 32 (l_ 31), s 33 (.build [(.string (.mk (.mk []))), (.slice none 0 0), (.slice none 0 0)] [(0, 1), (1, 1), (2, 1)] [t 28, t 30, t 32]), s 34 (.iadr 3 (t 25) (t 26)), ⟨none, none, (.store 3 (t 34) (t 33))⟩]))) (r_ [s 35 (.bin .add (t 20) (i_ 1)), v_ 20 35]))))))) (q_ (r_ [v_ 36 6, v_ 4 36]) .ret)))))
theorem pMatchesOf.ir : IrAt Tryz.prog 23 pMatchesOf.code [0, 1, 2, 4, 5, 6, 7, 8, 18, 19, 20, 21] [.tmp 4] Tryz.f23.ntmps := ir_ Tryz.func23
abbrev pMatchesOf.OwnN (args : List AV) (x : Tr) : Prop := Abs.Own false Tryz.prog 23 args x
def sAllMatches.code : ACode := (q_ (r_ [s 4 (.mv (.const (.slice none 0 0)))]) (q_ (r_ [s 7 (.bslice 65 3 true []), v_ 5 7]) (q_ (q_ (r_ [s 6 (.mv (i_ 0))]) (.block 0 (.loop (q_ (q_ (r_ [v_ 8 6, v_ 9 0, s 10 (.len false (t 9)), s 11 (.bin .lss (t 8) (t 10)), v_ 12 11, g 12 true 13 (.mv (t 0)), g 12 true 14 (.call 69 [t 13]), s 15 (.and (t 12) (t 14))]) (.cond (t 15) .skip (.exit 0))) (q_ (.block 1 (r_ [v_ 18 5, v_ 19 0, v_ 20 6, s 21 (.iadr 4 (t 19) (t 20)), s 22 (a_ 4 21), v_ 23 1, s 24 (.call 22 [t 22, t 23]), s 25 (.append 65 3 64 (t 18) (t 24)), v_ 5 25])) (r_ [v_ 16 6, s 17 (.bin .add (t 16) (i_ 1)), v_ 6 17])))))) (q_ (r_ [v_ 26 5, v_ 4 26]) .ret))))
theorem sAllMatches.ir : IrAt Tryz.prog 28 sAllMatches.code [0, 1, 4, 5, 6] [.tmp 4] Tryz.f28.ntmps := ir_ Tryz.func28
abbrev sAllMatches.Own (args : List AV) (x : Tr) : Prop := Abs.Own true Tryz.prog 28 args x
def pAllMatches.code : ACode := (q_ (r_ [s 4 (.mv (.const (.slice none 0 0)))]) (q_ (r_ [s 8 (.bslice 65 3 true []), v_ 5 8]) (q_ (q_ (r_ [v_ 9 0, s 10 (.call 70 [t 9]), s 11 (.not (t 10))]) (.cond (t 11) (q_ (r_ [v_ 12 5, v_ 4 12]) .ret) .skip)) (q_ (q_ (r_ [v_ 13 0, s 14 (.len false (t 13)), s 15 (.mv (i_ 0))]) (.block 0 (.loop (q_ (r_ [s 16 (.bin .lss (t 15) (t 14))]) (q_ (.cond (t 16) .skip (.exit 0)) (q_ (.block 1 (q_ (r_ [s 17 (.iadr 4 (t 13) (t 15)), s 18 (a_ 4 17), s 7 (.alloc [(.string (.mk (.mk []))), (.int .i64 (.ofNat 0)), (.slice none 0 0), (.slice none 0 0)]), ⟨none, none, (.store 4 (t 7) (t 18))⟩]) (r_ [v_ 19 5, s 20 (a_ 4 7), v_ 21 1, s 22 (.call 23 [t 20, t 21]), s 23 (.append 65 3 64 (t 19) (t 22)), v_ 5 23]))) (r_ [s 24 (.bin .add (t 15) (i_ 1)), v_ 15 24]))))))) (q_ (r_ [v_ 25 5, v_ 4 25]) .ret)))))
theorem pAllMatches.ir : IrAt Tryz.prog 30 pAllMatches.code [0, 1, 4, 5, 7, 13, 14, 15, 16] [.tmp 4] Tryz.f30.ntmps := ir_ Tryz.func30
abbrev pAllMatches.OwnN (args : List AV) (x : Tr) : Prop := Abs.Own false Tryz.prog 30 args x
def sNext.code : ACode := (q_ (r_ [s 4 (.box (t 1)), s 6 (.mv (.const (.slice none 0 0)))]) (q_ (r_ [s 12 (.bslice 90 2 true []), v_ 7 12]) (q_ (q_ (r_ [s 8 (.mv (i_ 0))]) (.block 0 (.loop (q_ (q_ (r_ [v_ 13 8, v_ 14 0, s 15 (.len false (t 14)), s 16 (.bin .lss (t 13) (t 15))]) (.cond (t 16) .skip (.exit 0))) (q_ (.block 1 (q_ (q_ (r_ [s 19 (f_ 0 4), s 20 (l_ 19), s 21 (.bin .neq (t 20) (i_ 1))]) (.cond (t 21) (q_ (q_ (.region true [s 22 (a_ 5 4), v_ 23 0, v_ 24 8, s 25 (.iadr 2 (t 23) (t 24)), s 26 (f_ 1 25), s 27 (l_ 26), v_ 28 2, s 29 (.call 127 [t 22, t 27, t 28])]) (.cond (t 29) (r_ [v_ 30 7, v_ 31 0, v_ 32 8, s 33 (.iadr 2 (t 31) (t 32)), s 34 (a_ 2 33), s 35 (.call 128 [t 34]), s 36 (.bslice 90 2 false [t 35]), s 37 (.append 90 2 48 (t 30) (t 36)), v_ 7 37]) .skip)) (.exit 1)) .skip)) (q_ (r_ [s 9 (.mv (i_ 0))]) (.block 2 (.loop (q_ (q_ (r_ [v_ 38 9, v_ 39 2, s 40 (.len false (t 39)), s 41 (.bin .lss (t 38) (t 40))]) (.cond (t 41) .skip (.exit 2))) (q_ (.block 3 (q_ (.held [s 45 (f_ 1 4), s 46 (a_ 2 45), v_ 47 2, v_ 48 9, s 49 (.iadr 2 (t 47) (t 48)), s 50 (a_ 2 49), v_ 51 0, v_ 52 8, s 53 (.iadr 2 (t 51) (t 52)), s 54 (f_ 1 53), s 55 (l_ 54), s 56 (.call 129 [t 46, t 50, t 55]), v_ 44 56, s 57 (.extract (t 44) 0), s 58 (.extract (t 44) 1), v_ 10 57] [v_ 11 58]) (q_ (r_ [v_ 59 11]) (.cond (t 59) (.held [v_ 60 7, v_ 61 0, v_ 62 8, s 63 (.iadr 2 (t 61) (t 62)), s 64 (f_ 0 63), s 65 (l_ 64), v_ 67 2, v_ 68 9, s 69 (.iadr 2 (t 67) (t 68)), s 70 (a_ 2 69), v_ 74 10, s 66 (.call 130 [t 65]), s 71 (.call 131 [t 70]), s 72 (.bslice 86 2 false [t 71]), s 73 (.append 86 2 40 (t 66) (t 72)), s 75 (.build [(.slice none 0 0), (.slice none 0 0)] [(0, 1), (1, 1)] [t 73, t 74]), s 76 (.bslice 90 2 false [t 75])] [s 77 (.append 90 2 48 (t 60) (t 76)), v_ 7 77]) .skip)))) (r_ [v_ 42 9, s 43 (.bin .add (t 42) (i_ 1)), v_ 9 43])))))))) (r_ [v_ 17 8, s 18 (.bin .add (t 17) (i_ 1)), v_ 8 18])))))) (q_ (r_ [v_ 78 7, v_ 6 78]) .ret))))
theorem sNext.ir : IrAt Tryz.prog 93 sNext.code [0, 1, 2, 4, 6, 7, 8, 9, 10, 11] [.tmp 6] Tryz.f93.ntmps := ir_ Tryz.func93
abbrev sNext.Own (args : List AV) (x : Tr) : Prop := Abs.Own true Tryz.prog 93 args x
def sCopyT.code : ACode := (q_ (r_ [s 1 (.box (t 0)), s 2 (.alloc [(.slice none 0 0), (.slice none 0 0)])]) (q_ (.held [s 3 (f_ 0 1), s 4 (l_ 3), s 6 (f_ 1 1), s 7 (l_ 6), s 5 (.call 130 [t 4])] [s 8 (.call 164 [t 7]), s 9 (.build [(.slice none 0 0), (.slice none 0 0)] [(0, 1), (1, 1)] [t 5, t 8]), ⟨none, none, (.store 2 (t 2) (t 9))⟩]) .ret))
theorem sCopyT.ir : IrAt Tryz.prog 128 sCopyT.code [0, 1, 2] [.cell 2 true 2] Tryz.f128.ntmps := ir_ Tryz.func128
abbrev sCopyT.Own (args : List AV) (x : Tr) : Prop := Abs.Own true Tryz.prog 128 args x
def sTokens.code : ACode := (q_ (r_ [s 4 (.mv (.const (.slice none 0 0)))]) (q_ (r_ [s 7 (.build [(.slice none 0 0), (.slice none 0 0)] [] []), s 8 (.bslice 90 2 true [t 7]), v_ 5 8]) (q_ (q_ (r_ [s 6 (.mv (i_ 0))]) (.block 0 (.loop (q_ (q_ (r_ [v_ 9 6, v_ 10 0, s 11 (.len false (t 10)), s 12 (.bin .lss (t 9) (t 11))]) (.cond (t 12) .skip (.exit 0))) (q_ (.block 1 (r_ [v_ 15 5, v_ 16 0, v_ 17 6, s 18 (.iadr 5 (t 16) (t 17)), s 19 (a_ 5 18), v_ 20 1, s 21 (.call 93 [t 15, t 19, t 20]), v_ 5 21])) (r_ [v_ 13 6, s 14 (.bin .add (t 13) (i_ 1)), v_ 6 14])))))) (q_ (r_ [v_ 22 5, v_ 4 22]) .ret))))
theorem sTokens.ir : IrAt Tryz.prog 51 sTokens.code [0, 1, 4, 5, 6] [.tmp 4] Tryz.f51.ntmps := ir_ Tryz.func51
abbrev sTokens.Own (args : List AV) (x : Tr) : Prop := Abs.Own true Tryz.prog 51 args x
def ptokensOfConds.code : ACode := (q_ (r_ [s 4 (.mv (.const (.slice none 0 0)))]) (q_ (r_ [v_ 9 0, s 10 (.len false (t 9)), s 11 (.bin .sub (t 10) (i_ 1)), v_ 5 11]) (q_ (q_ (r_ [v_ 12 5, s 13 (.bin .lss (t 12) (i_ 0))]) (.cond (t 13) (q_ (r_ [s 14 (.build [(.slice none 0 0), (.slice none 0 0)] [] []), s 15 (.bslice 90 2 true [t 14]), v_ 4 15]) .ret) .skip)) (q_ (r_ [s 16 (.bslice 90 2 true []), v_ 6 16]) (q_ (q_ (r_ [v_ 17 0, v_ 18 5, s 19 (.slice false 5 (t 17) none (some (t 18))), v_ 20 1, s 21 (.call 57 [t 19, t 20]), s 22 (.len false (t 21)), s 23 (.mv (i_ 0))]) (.block 0 (.loop (q_ (r_ [s 24 (.bin .lss (t 23) (t 22))]) (q_ (.cond (t 24) .skip (.exit 0)) (q_ (.block 1 (q_ (r_ [s 25 (.iadr 2 (t 21) (t 23)), s 26 (a_ 2 25), s 8 (.alloc [(.slice none 0 0), (.slice none 0 0)]), ⟨none, none, (.store 2 (t 8) (t 26))⟩]) (.held [v_ 27 6, s 28 (a_ 2 8), v_ 29 0, v_ 30 5, s 31 (.iadr 5 (t 29) (t 30)), s 32 (a_ 5 31), v_ 33 1, s 34 (.call 104 [t 28, t 32, t 33])] [s 35 (.append 90 2 48 (t 27) (t 34)), v_ 6 35]))) (r_ [s 36 (.bin .add (t 23) (i_ 1)), v_ 23 36]))))))) (q_ (r_ [v_ 37 6, v_ 4 37]) .ret))))))
theorem ptokensOfConds.ir : IrAt Tryz.prog 57 ptokensOfConds.code [0, 1, 4, 5, 6, 8, 21, 22, 23, 24] [.tmp 4] Tryz.f57.ntmps := ir_ Tryz.func57
abbrev ptokensOfConds.OwnN (args : List AV) (x : Tr) : Prop := Abs.Own false Tryz.prog 57 args x
def ptokensBehind.code : ACode := (q_ (r_ [s 3 (.box (t 0)), s 4 (.box (t 1)), s 6 (.mv (.const (.slice none 0 0)))]) (q_ (r_ [s 12 (.bslice 90 2 true []), v_ 7 12]) (q_ (q_ (r_ [s 13 (f_ 0 4), s 14 (l_ 13), s 15 (.bin .neq (t 14) (i_ 1))]) (.cond (t 15) (q_ (q_ (r_ [s 16 (a_ 5 4), s 17 (f_ 1 3), s 18 (l_ 17), v_ 19 2, s 20 (.call 150 [t 16, t 18, t 19])]) (.cond (t 20) (r_ [v_ 21 7, s 22 (a_ 2 3), s 23 (.bslice 90 2 false [t 22]), s 24 (.append 90 2 48 (t 21) (t 23)), v_ 7 24]) .skip)) (q_ (r_ [v_ 25 7, v_ 6 25]) .ret)) .skip)) (q_ (q_ (r_ [v_ 26 2, s 27 (.len false (t 26)), s 28 (.mv (i_ 0))]) (.block 0 (.loop (q_ (r_ [s 29 (.bin .lss (t 28) (t 27))]) (q_ (.cond (t 29) .skip (.exit 0)) (q_ (.block 1 (q_ (r_ [s 30 (.iadr 2 (t 26) (t 28)), s 31 (a_ 2 30), s 9 (.alloc [(.string (.mk (.mk []))), (.slice none 0 0)]), ⟨none, none, (.store 2 (t 9) (t 31))⟩]) (q_ (r_ [s 33 (f_ 1 4), s 34 (a_ 2 33), s 35 (a_ 2 9), s 36 (f_ 1 3), s 37 (l_ 36), s 38 (.call 151 [t 34, t 35, t 37]), v_ 32 38, s 39 (.extract (t 32) 0), s 40 (.extract (t 32) 1), v_ 10 39, v_ 11 40]) (q_ (r_ [v_ 41 11]) (.cond (t 41) (.held [v_ 42 7, s 43 (f_ 0 3), s 44 (l_ 43), s 46 (a_ 2 9), v_ 50 10, s 45 (.call 152 [t 44]), s 47 (.call 153 [t 46]), s 48 (.bslice 86 2 false [t 47]), s 49 (.append 86 2 40 (t 45) (t 48)), s 51 (.build [(.slice none 0 0), (.slice none 0 0)] [(0, 1), (1, 1)] [t 49, t 50]), s 52 (.bslice 90 2 false [t 51])] [s 53 (.append 90 2 48 (t 42) (t 52)), v_ 7 53]) .skip))))) (r_ [s 54 (.bin .add (t 28) (i_ 1)), v_ 28 54]))))))) (q_ (r_ [v_ 55 7, v_ 6 55]) .ret)))))
theorem ptokensBehind.ir : IrAt Tryz.prog 104 ptokensBehind.code [0, 1, 2, 3, 4, 6, 7, 9, 10, 11, 26, 27, 28, 29] [.tmp 6] Tryz.f104.ntmps := ir_ Tryz.func104
abbrev ptokensBehind.OwnN (args : List AV) (x : Tr) : Prop := Abs.Own false Tryz.prog 104 args x
abbrev ptokensBehind.RetN (args : List AV) (r : AV) (frs : Fr) : Prop := Abs.Ret false Tryz.prog 104 args r frs
end Go.Proofs.YtoindmahilbalaaGreat
namespace Go.Proofs.YtoindmahilbalaaGreat
namespace Abs
variable {α : Type}
theorem rows_snoc (T : Ty α) (l : List α) (a : α) : rows T l ++ [oldL (T.q a)] = rows T (l ++ [a]) := by simp [rows, oldLL_eq, oldL_eq]
theorem rows_cut (T : Ty α) (l : List α) : ∀ c ∈ rows T l, c.length = T.sz := oldLL_sz T.hq
theorem plain_ownA (T : Ty α) (hf : ∀ a, T.fr a = []) (e : ∀ a, T.tk a 0 = oldL (T.q a)) (F : Fr) (t k : Nat) (l : List α) (hk : F[k]? = some (t, T.sz, l.length)) {xs : List Tr} {cs : List AV} (h : OwnA F xs cs []) :
 OwnA F (.l t T.sz (l.map T.q) :: xs) (.list (some k) (rows T l) :: cs) [k] := by
 have h3 := own_plain T hf 0 F l
 have e2 : (l.map fun a => T.tk a 0) = rows T l := by rw [rows, oldLL_eq, List.map_map]; exact List.map_congr_left fun a _ => by rw [e, oldL_eq]; rfl
 rw [e2] at h3
 exact .l t T.sz _ k _ (by rw [hk, List.length_map]) (by simp) (fun e he => by obtain ⟨a, _, rfl⟩ := List.mem_map.1 he; exact T.hq a) (rows_cut T l) h3 h
end Abs
open Abs
abbrev VMatch := Str × List Fct × List VPair
instance : DecidableEq VMatch := instDecidableEqProd
def tMatch : Ty VMatch := Ty.pair Ty.str (Ty.pair tFcts tPairs)
theorem tMatch_size (a : VMatch) : tMatch.size a = a.1.length + (tFcts.size a.2.1 + tPairs.size a.2.2) := rfl
theorem tMatch_cn : CnB tMatch 5 := CnB.pair CnB.str (CnB.pair (CnB.list tFct_cn _) (CnB.plain tPair_cn _ _ _))
def tMatchs : Ty (List VMatch) := Ty.list 65 tMatch
theorem tMatchs_sz (l : List VMatch) : tMatchs.size l = l.length + listSize tMatch l := rfl
theorem tMatch_get {l : List VMatch} {i : Nat} (hi : i < l.length) : l[i]? = some (l.getD i default) := by simp [List.getD, hi]
theorem tMatch_le {l : List VMatch} {i : Nat} (hi : i < l.length) : tMatch.size (l.getD i default) ≤ listSize tMatch l := listSize_mem tMatch (List.mem_of_getElem? (tMatch_get hi))
theorem Abs.ACall.mk_MatchS {C : Con} {lend : Bool} {f : Nat} {vs : List AV} {b : List ABox} {fr : Fr} {k : AV → List ABox → Fr → Prop} (ys : List AV) (l : List VMatch) (h : C.ret f ys (.list (some (0 + (frs tMatch l).length)) (tks tMatch l 0)) (tMatchs.fr l)) (hv : SeesL Sees0 vs ys)
 (hk : k (.list (some (fr.length + (frs tMatch l).length)) (tks tMatch l fr.length)) b (fr ++ tMatchs.fr l)) : ACall C lend f vs b fr k :=
 ACall.mkV tMatchs ys l (fun n => .list (some (n + (frs tMatch l).length)) (tks tMatch l n)) (fun _ => rfl) h hv hk
theorem eqMatch.big (f g : VMatch) (h : tMatch.size f ≤ 1099511627775) : eqMatch.Ret [.agg (oldL (tMatch.q f)), .agg (oldL (tMatch.q g))] (.val (.bool (decide (f = g)))) [] := by
 refine eqMatch.ir.of rfl ?_
 have hz := tMatch_size f
 repeat' first
  | (conv => whnf
     first | refine Fork.sne (fun _ => ?_) (fun _ => ?_) | refine Fork.neg (fun _ => ?_) (fun _ => ?_) | refine FinVal.keep ?_ | refine Final.mk ?_ rfl | refine ACall.scalA _ _ (eqFactS.big _ _ ?_) rfl ?_ | refine ACall.scalA _ _ (eqPairS.big _ _ ?_) rfl ?_)
  | refine AV.bool_congr ?_
 all_goals first
  | omega
  | (simp only [tStrs_size, tInts_size] at *; omega)
  | (obtain ⟨x0, x1, x2⟩ := f; obtain ⟨y0, y1, y2⟩ := g; simp_all)
theorem eqMatchS.big (l m : List VMatch) (h : tMatchs.size l ≤ 1099511627775) : eqMatchS.Ret [.list none (rows tMatch l), .list none (rows tMatch m)] (.val (.bool (decide (l = m)))) [] := by
 refine eqMatchS.ir.of rfl ?_
 rw [tMatchs_sz] at h
 repeat' first
  | (conv => whnf
     first | refine Need.mk rfl ?_ | refine Fork.bne (fun _ => ?_) (fun _ => ?_) | refine FinVal.keep ?_ | refine Final.mk ?_ rfl)
  | refine AV.bool_congr ?_
 ·rename_i h
  rw [length_rows, length_rows] at h
  have h3 : ¬ l = m := fun e => h (by rw [e])
  simp [h3]
 rename_i h
 rw [length_rows, length_rows] at h
 have h : l.length = m.length := by omega
 skip
 refine ALoop.mk Nat (fun i => ⟨[(0, .list none (rows tMatch l)), (1, .list none (rows tMatch m)), (5, .val (.int .i64 i))], [], []⟩) (fun i => i ≤ l.length ∧ l.take i = m.take i) (fun i => l.length - i) ⟨0, ⟨Nat.zero_le _, rfl⟩, ?_⟩ (fun i hi => ?_)
 ·repeat' first
   | exact trivial | refine wl_ ?_ ?_ ?_ ?_ | refine And.intro ?_ ?_ | with_reducible rfl | exact ble_ | refine AV.int_congr ?_ | refine AV.list_congr ?_ | (apply rfl)
 repeat' first
  | (conv => whnf
     first | refine Need.mk rfl ?_ | refine nb_ ?_ | refine Ix.mapF (fun _ => rfl) ?_ | refine Fork.dec (fun _ => ?_) (fun _ => ?_) | refine Fork.neg (fun _ => ?_) (fun _ => ?_) | refine Round.mk ?_ | refine FinVal.keep ?_ | refine Final.mk ?_ rfl | refine AQCall.mkA _ _ (fun hg => eqMatch.big _ _ ?_) rfl ?_)
  | refine AV.bool_congr ?_
 ·rename_i h1
  rw [length_rows] at h1
  have := listSize_mem tMatch (List.mem_of_getElem? (tMatch_get (l := l) (i := i) (by omega)))
  rw [Int.toNat_natCast]; omega
 ·rename_i h1 h2
  have h3 : ¬ l = m := fun e => of_decide_eq_false h2 (by rw [e])
  simp [h3]
 ·rename_i h1 h2
  rw [length_rows] at h1
  rw [Int.toNat_natCast] at h2
  refine ⟨i + 1, ⟨by omega, ?_⟩, ?_, by omega⟩
  ·rw [take_succ' default (by omega), take_succ' (l := m) default (by omega), hi.2, of_decide_eq_true h2]
  ·repeat' first
    | exact trivial | refine wl_ ?_ ?_ ?_ ?_ | refine And.intro ?_ ?_ | with_reducible rfl | exact ble_ | refine AV.int_congr ?_ | refine AV.list_congr ?_ | (apply rfl)
   rw [wrap64 (by omega) (by omega)]; rfl
 ·rename_i h1
  rw [length_rows] at h1
  have h2 := hi.2
  rw [List.take_of_length_le (by omega), List.take_of_length_le (by omega)] at h2
  simp [h2]
theorem markMatchS.tn (l : List VMatch) (k : Nat) (hs : tMatchs.size l ≤ 1099511627775) (hk : k + cn (.l 65 3 (l.map tMatch.q)) ≤ 1099511627775) :
 markMatchS.Turn (gb (.l 65 3 (l.map tMatch.q)) 0) [gv (.l 65 3 (l.map tMatch.q)) 0, .val (.int .i64 k)] (.val (.int .i64 ((k + cn (.l 65 3 (l.map tMatch.q)) : Nat)))) (gb (mk (.l 65 3 (l.map tMatch.q)) k) 0) := by
 refine markMatchS.ofT rfl rfl (by rw [length_gb, nb_mk]) ?_
 obtain ⟨cs, hcs⟩ : ∃ cs, cs = (l.map tMatch.q).flatten := ⟨_, rfl⟩
 have hlen : cs.length = l.length * 3 := by rw [hcs]; exact flat_len _ 3 tMatch.hq l
 have hc0 : ∀ i, i < l.length → cs[i * 3 + 0]? = some (.s (l.getD i default).1) := fun i hi => by rw [hcs]; exact cell_at tMatch.q 3 tMatch.hq hi rfl
 have hc1 : ∀ i, i < l.length → cs[i * 3 + 1]? = some (.l 86 2 ((l.getD i default).2.1.map tFct.q)) := fun i hi => by rw [hcs]; exact cell_at tMatch.q 3 tMatch.hq hi rfl
 have hc2 : ∀ i, i < l.length → cs[i * 3 + 2]? = some (.l 141 2 ((l.getD i default).2.2.map tPair.q)) := fun i hi => by rw [hcs]; exact cell_at tMatch.q 3 tMatch.hq hi rfl
 rw [gb_mk_l0, gb_l0, cn_l, gv, List.length_map, ← hcs]
 rw [cn_l, ← hcs] at hk
 clear hcs
 skip
 refine ALoop.mk Nat (fun i => ⟨[(0, .bsl 0 l.length), (1, .val (.int .i64 ((k + cnC (cs.take (i * 3)) : Nat)))), (5, .val (.int .i64 i))], .cells (.row 65 3) (gvL (st cs k (i * 3)) 1) :: gbL (st cs k (i * 3)) 1, []⟩) (fun i => i ≤ l.length) (fun i => l.length - i) ⟨0, Nat.zero_le _, ?_⟩ (fun i hi => ?_)
 ·refine weak_st ⟨rfl, ?_, rfl, trivial⟩ ?_ ?_ rfl ?_
  ·rw [Nat.zero_mul]; rfl
  ·rw [Nat.zero_mul, st_zero]
  ·rw [Nat.zero_mul, st_zero]
  ·rw [Nat.zero_mul, st_zero, List.length_cons]; exact Nat.le_refl _
 have hle := cn_take_le cs (i * 3)
 rw [tMatchs_sz] at hs
 rcases Nat.lt_or_ge i l.length with hlt | hge
 rotate_left
 ·have hiw : i * 3 = cs.length := by omega
  repeat' first
   | (conv => whnf
      first | refine Need.mk rfl ?_ | refine Fork.decNo (by omega) ?_ | refine forceBx_of ?_ | refine FinalT.mk ?_ ?_)
   | refine AV.int_congr ?_
  ·rw [hiw, List.take_length]
  ·rw [hiw, st_all cs k rfl]; exact take_all (by rw [List.length_cons, List.length_cons, length_gbL, length_gbL, nbL_mkC]; exact Nat.le_refl _)
 have hi1 : (i + 1) * 3 = i * 3 + 3 := by omega
 have hsz := tMatch_le hlt
 have hz29 := tMatch_size (l.getD i default)
 repeat' first
  | (conv => whnf
     first | refine Need.mk rfl ?_ | refine Fork.decYes (by omega) ?_ | refine forceBx_of ?_)
 have l0 := cn_take_le cs (i * 3 + 1)
 have n0 : cnC (cs.take (i * 3 + 1)) = cnC (cs.take (i * 3)) + 1 := cn_succ (hc0 i hlt)
 have w0 : IntKind.i64.wrap (((k + cnC (cs.take (i * 3)) : Nat) : Int) + 1) = ((k + cnC (cs.take (i * 3 + 1)) : Nat) : Int) := by rw [wrap64 (by omega) (by omega)]; omega
 have b0 : gbL (st cs k (i * 3 + 1)) 1 = gbL (st cs k (i * 3)) 1 := gbL_st k 1 (hc0 i hlt) rfl
 have g0 : gvL (st cs k (i * 3 + 1)) 1 = (gvL (st cs k (i * 3)) 1).set (i * 3) (.str (markF (k + cnC (cs.take (i * 3))))) := gvL_st k 1 (hc0 i hlt)
 conv => whnf
 refine ACall.scal [.val (.int .i64 ((k + cnC (cs.take (i * 3)) : Nat)))] _ (markText.ret (k + cnC (cs.take (i * 3))) (by omega)) rfl (.cons (SeesB.of0 (by exact Sees0.val _)) .nil) ?_
 repeat' first
  | (conv => whnf
     first | refine Need.mk rfl ?_ | refine Need.fin ?_ | refine Need.mk ⟨rfl, by simp only [length_setAt, List.length_set, length_gvL, length_st, Int.toNat_natCast]; omega⟩ ?_)
 have l1 := cn_take_le cs (i * 3 + 2)
 have n1 : cnC (cs.take (i * 3 + 2)) = cnC (cs.take (i * 3 + 1)) + cn (.l 86 2 ((l.getD i default).2.1.map tFct.q)) := cn_succ (hc1 i hlt)
 have g1 : gvL (st cs k (i * 3 + 2)) 1 = gvL (st cs k (i * 3 + 1)) 1 := gvL_stL k 1 (hc1 i hlt)
 have t1 : markFactS.Turn (gb (.l 86 2 ((l.getD i default).2.1.map tFct.q)) 0) [gv (.l 86 2 ((l.getD i default).2.1.map tFct.q)) 0, .val (.int .i64 ((k + cnC (cs.take (i * 3 + 1)) : Nat)))] (.val (.int .i64 ((k + cnC (cs.take (i * 3 + 2)) : Nat)))) (gb (mk (.l 86 2 ((l.getD i default).2.1.map tFct.q)) (k + cnC (cs.take (i * 3 + 1)))) 0) := by
  have h := markFactS.tn (l.getD i default).2.1 (k + cnC (cs.take (i * 3 + 1))) (by omega) (by omega)
  rw [Nat.add_assoc, ← n1] at h; exact h
 have d1 : ((gvL (st cs k (i * 3)) 1).set (i * 3) (.str (markF (k + cnC (cs.take (i * 3)))))).drop (i * 3 + 1) = gv (.l 86 2 ((l.getD i default).2.1.map tFct.q)) (1 + nbL (cs.take (i * 3 + 1))) :: gvL (cs.drop (i * 3 + 1 + 1)) (1 + nbL (cs.take (i * 3 + 1)) + nb (.l 86 2 ((l.getD i default).2.1.map tFct.q))) := by
  have h := ld_st k 1 (hc1 i hlt)
  try simp only [Nat.add_zero] at h
  rw [g0] at h
  exact h
 conv => whnf
 refine takeAV_one (n := 1) _ _ d1 ?_
 conv => whnf
 refine ACall.turn' (.cells (.row 65 3) ((gvL (st cs k (i * 3)) 1).set (i * 3) (.str (markF (k + cnC (cs.take (i * 3)))))) :: gbL (st cs k (i * 3 + 2)) 1) [gv (.l 86 2 ((l.getD i default).2.1.map tFct.q)) 0, .val (.int .i64 ((k + cnC (cs.take (i * 3 + 1)) : Nat)))] (.l 86 2 ((l.getD i default).2.1.map tFct.q)) (mk (.l 86 2 ((l.getD i default).2.1.map tFct.q)) (k + cnC (cs.take (i * 3 + 1)))) _ (.cells (.row 65 3) ((gvL (st cs k (i * 3)) 1).set (i * 3) (.str (markF (k + cnC (cs.take (i * 3)))))) :: gbL (mkC (cs.take (i * 3 + 1)) k) 1) (gbL (cs.drop (i * 3 + 1 + 1)) (1 + nbL (cs.take (i * 3 + 1)) + nb (.l 86 2 ((l.getD i default).2.1.map tFct.q)))) t1 rfl ?_ (nb_mk _ _) (.cons (.inl ⟨by rw [pre_st]; rfl, rfl⟩) (.cons (.inr (by rw [w0]; exact Sees0.val _)) .nil)) ?_ ?_
 ·rw [← b0]; exact bx_st k (hc1 i hlt) _
 ·exact bx_st' k (hc1 i hlt) _
 repeat' first
  | (conv => whnf
     first | refine Need.fin ?_)
 have l2 := cn_take_le cs (i * 3 + 3)
 have n2 : cnC (cs.take (i * 3 + 3)) = cnC (cs.take (i * 3 + 2)) + cn (.l 141 2 ((l.getD i default).2.2.map tPair.q)) := cn_succ (hc2 i hlt)
 have g2 : gvL (st cs k (i * 3 + 3)) 1 = gvL (st cs k (i * 3 + 2)) 1 := gvL_stL k 1 (hc2 i hlt)
 have t2 : markPairS.Turn (gb (.l 141 2 ((l.getD i default).2.2.map tPair.q)) 0) [gv (.l 141 2 ((l.getD i default).2.2.map tPair.q)) 0, .val (.int .i64 ((k + cnC (cs.take (i * 3 + 2)) : Nat)))] (.val (.int .i64 ((k + cnC (cs.take (i * 3 + 3)) : Nat)))) (gb (mk (.l 141 2 ((l.getD i default).2.2.map tPair.q)) (k + cnC (cs.take (i * 3 + 2)))) 0) := by
  have h := markPairS.tn (l.getD i default).2.2 (k + cnC (cs.take (i * 3 + 2))) (by omega) (by omega)
  rw [Nat.add_assoc, ← n2] at h; exact h
 have d2 : ((gvL (st cs k (i * 3)) 1).set (i * 3) (.str (markF (k + cnC (cs.take (i * 3)))))).drop (i * 3 + 2) = gv (.l 141 2 ((l.getD i default).2.2.map tPair.q)) (1 + nbL (cs.take (i * 3 + 2))) :: gvL (cs.drop (i * 3 + 2 + 1)) (1 + nbL (cs.take (i * 3 + 2)) + nb (.l 141 2 ((l.getD i default).2.2.map tPair.q))) := by
  have h := ld_st k 1 (hc2 i hlt)
  try simp only [Nat.add_zero] at h
  rw [g1, g0] at h
  exact h
 conv => whnf
 refine takeAV_one (n := 1) _ _ d2 ?_
 conv => whnf
 refine ACall.turn' (.cells (.row 65 3) ((gvL (st cs k (i * 3)) 1).set (i * 3) (.str (markF (k + cnC (cs.take (i * 3)))))) :: gbL (st cs k (i * 3 + 3)) 1) [gv (.l 141 2 ((l.getD i default).2.2.map tPair.q)) 0, .val (.int .i64 ((k + cnC (cs.take (i * 3 + 2)) : Nat)))] (.l 141 2 ((l.getD i default).2.2.map tPair.q)) (mk (.l 141 2 ((l.getD i default).2.2.map tPair.q)) (k + cnC (cs.take (i * 3 + 2)))) _ (.cells (.row 65 3) ((gvL (st cs k (i * 3)) 1).set (i * 3) (.str (markF (k + cnC (cs.take (i * 3)))))) :: gbL (mkC (cs.take (i * 3 + 2)) k) 1) (gbL (cs.drop (i * 3 + 2 + 1)) (1 + nbL (cs.take (i * 3 + 2)) + nb (.l 141 2 ((l.getD i default).2.2.map tPair.q)))) t2 rfl ?_ (nb_mk _ _) (.cons (.inl ⟨by rw [pre_st]; rfl, rfl⟩) (.cons (.inr (by exact Sees0.val _)) .nil)) ?_ ?_
 ·exact bx_st k (hc2 i hlt) _
 ·exact bx_st' k (hc2 i hlt) _
 repeat' first
  | (conv => whnf
     first | refine Need.mk rfl ?_ | refine Round.mk ?_)
 refine ⟨i + 1, by omega, weak_st ⟨rfl, AV.int_congr ?_, AV.int_congr ?_, trivial⟩ (congrArg (ABox.cells (.row 65 3)) ?_) ?_ rfl ?_, by omega⟩
 ·rw [hi1]
 ·rw [wrap64 (by omega) (by omega)]; rfl
 ·rw [hi1, g2, g1, g0]
  try rfl
 ·rw [hi1]
 ·simp only [hi1, List.length_cons, length_gbL, nbL_st, Nat.le_refl]
theorem heldMatchS.hd (l : List VMatch) (k : Nat) (hs : tMatchs.size l ≤ 1099511627775) (hk : k + cn (.l 65 3 (l.map tMatch.q)) ≤ 1099511627775) : heldMatchS.Ret [old (mk (.l 65 3 (l.map tMatch.q)) k), .val (.int .i64 k)] (.val (.int .i64 ((k + cn (.l 65 3 (l.map tMatch.q)) : Nat)))) [] := by
 refine heldMatchS.ir.ofS rfl rfl ?_
 have hl : (oldLL (mkLL (l.map tMatch.q) k)).length = l.length := by rw [length_oldLL, length_mkLL, List.length_map]
 change k + cnLL (l.map tMatch.q) ≤ _ at hk
 show aCode _ _ _ _ (doneS _ (.val (.int .i64 ((k + cnLL (l.map tMatch.q) : Nat))))) ⟨argEnv 0 [.list none (oldLL (mkLL (l.map tMatch.q) k)), .val (.int .i64 k)], [], []⟩
 skip
 refine ALoop.mk Nat (fun i => ⟨[(0, .list none (oldLL (mkLL (l.map tMatch.q) k))), (1, .val (.int .i64 ((k + cnLL ((l.map tMatch.q).take i) : Nat)))), (5, .val (.int .i64 i))], [], []⟩) (fun i => i ≤ l.length) (fun i => l.length - i) ⟨0, Nat.zero_le _, ?_⟩ (fun i hi => ?_)
 ·repeat' first
   | exact trivial | refine wl_ ?_ ?_ ?_ ?_ | refine And.intro ?_ ?_ | with_reducible rfl | exact ble_ | refine AV.int_congr ?_ | refine AV.list_congr ?_ | (apply rfl)
 rw [tMatchs_sz] at hs
 rcases Nat.lt_or_ge i l.length with hlt | hge
 rotate_left
 ·have hil : (l.map tMatch.q).take i = l.map tMatch.q := List.take_of_length_le (by rw [List.length_map]; exact hge)
  repeat' first
   | (conv => whnf
      first | refine Need.mk rfl ?_ | refine Fork.decNo (by omega) ?_ | refine FinVal.keep ?_ | refine Final.mk ?_ rfl)
   | refine AV.int_congr ?_
  rw [hil]
 have hx : (l.map tMatch.q)[i]? = some (tMatch.q (l.getD i default)) := by rw [List.getElem?_map, tMatch_get hlt]; rfl
 have hle := cnLL_take_le (l.map tMatch.q) (i + 1)
 have hn := cnLL_succ hx
 have hsz := tMatch_le hlt
 have hz30 := tMatch_size (l.getD i default)
 obtain ⟨K, hK⟩ : ∃ K, K = k + cnLL ((l.map tMatch.q).take i) := ⟨_, rfl⟩
 have hix : (0 : Int) ≤ (i : Int) ∧ (oldLL (mkLL (l.map tMatch.q) k))[(i : Int).toNat]? = some (oldL (mkC (tMatch.q (l.getD i default)) K)) ∧ (oldL (mkC (tMatch.q (l.getD i default)) K)).length = 3 := by
  refine ⟨by omega, ?_, by rw [oldL_eq, List.length_map, length_mkC, tMatch.hq]; rfl⟩
  rw [Int.toNat_natCast, oldLL_eq, List.getElem?_map, mkLL_get _ _ _ _ hx, oldL_eq, hK]; rfl
 have hKn : k + cnLL ((l.map tMatch.q).take (i + 1)) = K + 1 + cn (.l 86 2 ((l.getD i default).2.1.map tFct.q)) + cn (.l 141 2 ((l.getD i default).2.2.map tPair.q)) := by
  rw [hn, ← Nat.add_assoc, ← hK]
  show K + (1 + (cn (.l 86 2 ((l.getD i default).2.1.map tFct.q)) + (cn (.l 141 2 ((l.getD i default).2.2.map tPair.q)) + (0)))) = _
  simp only [Nat.add_assoc, Nat.add_zero]
 rw [← hK]
 have w0 : IntKind.i64.wrap (((K : Nat) : Int) + 1) = ((K + 1 : Nat) : Int) := by rw [wrap64 (by omega) (by omega)]; omega
 repeat' first
  | (conv => whnf
     first | refine Need.mk rfl ?_ | refine Ix.mk _ (fun _ => hix) ?_ | refine Fork.decYes (by omega) ?_)
 conv => whnf
 first
  | refine AQCall.mk [.val (.int .i64 ((K : Nat)))] _ (fun _ => markText.ret (K) (by omega)) rfl (fun _ => .cons (SeesB.of0 (by exact Sees0.val _)) .nil) ?_
  | refine ACall.scal [.val (.int .i64 ((K : Nat)))] _ (markText.ret (K) (by omega)) rfl (.cons (SeesB.of0 (by exact Sees0.val _)) .nil) ?_
 conv => whnf
 refine Fork.sne (fun h => absurd rfl h) (fun _ => ?_)
 repeat' first
  | (conv => whnf
     first | refine Need.mk rfl ?_ | refine Ix.mk _ (fun _ => hix) ?_)
 conv => whnf
 refine ACall.scal [old (mk (.l 86 2 ((l.getD i default).2.1.map tFct.q)) (K + 1)), .val (.int .i64 ((K + 1 : Nat)))] _ (heldFactS.hd (l.getD i default).2.1 (K + 1) (by omega) (by omega)) rfl (.cons (SeesB.of0 (Sees0.olds _ _)) (.cons (SeesB.of0 (by rw [w0]; exact Sees0.val _)) .nil)) ?_
 repeat' first
  | (conv => whnf
     first | refine Need.mk rfl ?_ | refine Ix.mk _ (fun _ => hix) ?_ | refine Fork.decNo (by omega) ?_)
 conv => whnf
 refine ACall.scal [old (mk (.l 141 2 ((l.getD i default).2.2.map tPair.q)) (K + 1 + cn (.l 86 2 ((l.getD i default).2.1.map tFct.q)))), .val (.int .i64 ((K + 1 + cn (.l 86 2 ((l.getD i default).2.1.map tFct.q)) : Nat)))] _ (heldPairS.hd (l.getD i default).2.2 (K + 1 + cn (.l 86 2 ((l.getD i default).2.1.map tFct.q))) (by omega) (by omega)) rfl (.cons (SeesB.of0 (Sees0.olds _ _)) (.cons (SeesB.of0 (by exact Sees0.val _)) .nil)) ?_
 repeat' first
  | (conv => whnf
     first | refine Need.mk rfl ?_ | refine Fork.decNo (by omega) ?_ | refine Round.mk ?_)
 refine ⟨i + 1, by omega, ?_, by omega⟩
 repeat' first
  | exact trivial | refine wl_ ?_ ?_ ?_ ?_ | refine And.intro ?_ ?_ | with_reducible rfl | exact ble_ | refine AV.int_congr ?_ | refine AV.list_congr ?_ | (apply rfl)
 ·rw [hKn]
 ·rw [wrap64 (by omega) (by omega)]; rfl
open Abs
set_option maxRecDepth 20000 in
set_option maxHeartbeats 4000000 in
theorem lawExactAllMatches.of_own (a0 : List VRule) (a1 : List Fct) (hb0 : tRules.bd a0) (hb1 : tFcts.bd a1)
 (h : tRules.size a0 + tFcts.size a1 ≤ 1048576 → ∃ (r0 : List VMatch), tMatchs.size r0 ≤ 824633720832 ∧ cn (.l 65 3 (r0.map tMatch.q)) ≤ 8589934592 ∧ (sAllMatches.Own [.list none (rows tRule a0), .list none (rows tFct a1)] (.l 65 3 (r0.map tMatch.q)) ∧ pAllMatches.OwnN [.list none (rows tRule a0), .list none (rows tFct a1)] (.l 65 3 (r0.map tMatch.q)))) :
 lawExactAllMatches.RetN [.list none (rows tRule a0), .list none (rows tFct a1)] (.val (.bool true)) [] := by
 refine lawExactAllMatches.ir.ofS rfl rfl ?_
 by_cases c1 : (1048576 : Int) < (tRules.size a0 : Int)
 ·have e0 : left 1048576 (tRules.size a0) = -1 := by rw [left, if_pos (by omega)]
  repeat' first
   | (conv => whnf
      first | refine Need.mk rfl ?_ | refine Fork.decYes (by omega) ?_ | refine FinVal.keep ?_ | refine Final.mk rfl rfl | refine ACall.scalA _ _ (Ret.weak (szRuleS.ret _ _ ?_ ?_ ?_)) rfl ?_)
  all_goals first
   | assumption
   | omega
 by_cases c2 : (1048576 : Int) < (tRules.size a0 : Int) + (tFcts.size a1 : Int)
 ·have e0 : left 1048576 (tRules.size a0) = 1048576 - (tRules.size a0 : Int) := by rw [left, if_neg (by omega)]
  have e1 : left (left 1048576 (tRules.size a0)) (tFcts.size a1) = -1 := by rw [e0, left, if_pos (by omega)]
  repeat' first
   | (conv => whnf
      first | refine Need.mk rfl ?_ | refine Fork.decYes (by omega) ?_ | refine Fork.decNo (by omega) ?_ | refine FinVal.keep ?_ | refine Final.mk rfl rfl | refine ACall.scalA _ _ (Ret.weak (szRuleS.ret _ _ ?_ ?_ ?_)) rfl ?_ | refine ACall.scalA _ _ (Ret.weak (szFactS.ret _ _ ?_ ?_ ?_)) rfl ?_)
  all_goals first
   | assumption
   | omega
 have e0 : left 1048576 (tRules.size a0) = 1048576 - (tRules.size a0 : Int) := by rw [left, if_neg (by omega)]
 have e1 : left (left 1048576 (tRules.size a0)) (tFcts.size a1) = 1048576 - (tRules.size a0 : Int) - (tFcts.size a1 : Int) := by rw [e0, left, if_neg (by omega)]
 obtain ⟨r0, hg0, hcw0, hs, hp⟩ := h (by omega)
 have hcX0 : cn (.l 34 4 (a0.map tRule.q)) ≤ 10 * (1 + tRules.size a0) := Nat.le_trans (CnB.l tRule_cn _ _ a0) (Nat.mul_le_mul_left _ (Nat.le_add_left _ _))
 have hcX1 : cn (.l 86 2 (a1.map tFct.q)) ≤ 2 * (1 + tFcts.size a1) := Nat.le_trans (CnB.l tFct_cn _ _ a1) (Nat.mul_le_mul_left _ (Nat.le_add_left _ _))
 have hcG0 := hcw0
 obtain ⟨X0, eX0⟩ : ∃ x, x = Tr.l 34 4 (a0.map tRule.q) := ⟨_, rfl⟩
 obtain ⟨X1, eX1⟩ : ∃ x, x = Tr.l 86 2 (a1.map tFct.q) := ⟨_, rfl⟩
 obtain ⟨G0, eG0⟩ : ∃ x, x = Tr.l 65 3 (r0.map tMatch.q) := ⟨_, rfl⟩
 have okX0 : okT (X0) = true := by
  rw [eX0]
  exact ok_list tRule _ a0
 have hto0 : toRuleS.Own [.list none (rows tRule a0)] (X0) := by
  rw [eX0]
  exact toRuleS.own a0 (by omega)
 have heX0 : eqRuleS.Ret [old (X0), old (X0)] (.val (.bool true)) [] := by
  rw [eX0]
  have := eqRuleS.big a0 a0 (by omega)
  simp only [decide_true] at this
  exact this
 have hmX0 : markRuleS.Turn (gb (X0) 0) [gv (X0) 0, .val (.int .i64 ((1 : Nat)))] (.val (.int .i64 ((1 + cn (X0) : Nat)))) (gb (mk (X0) (1)) 0) := by
  rw [eX0]
  exact markRuleS.tn a0 _ (by omega) (by omega)
 have okX1 : okT (X1) = true := by
  rw [eX1]
  exact ok_list tFct _ a1
 have hto1 : toFactS.Own [.list none (rows tFct a1)] (X1) := by
  rw [eX1]
  exact toFactS.own a1 (by omega)
 have heX1 : eqFactS.Ret [old (X1), old (X1)] (.val (.bool true)) [] := by
  rw [eX1]
  have := eqFactS.big a1 a1 (by omega)
  simp only [decide_true] at this
  exact this
 have hmX1 : markFactS.Turn (gb (X1) 0) [gv (X1) 0, .val (.int .i64 ((1 + cn (X0) : Nat)))] (.val (.int .i64 ((1 + cn (X0) + cn (X1) : Nat)))) (gb (mk (X1) (1 + cn (X0))) 0) := by
  rw [eX0, eX1]
  exact markFactS.tn a1 _ (by omega) (by omega)
 have okG0 : okT (G0) = true := by
  rw [eG0]
  exact ok_list tMatch _ r0
 have heG0 : eqMatchS.Ret [old (G0), old (G0)] (.val (.bool true)) [] := by
  rw [eG0]
  have := eqMatchS.big r0 r0 (by omega)
  simp only [decide_true] at this
  exact this
 have hmG0 : markMatchS.Turn (gb (G0) 0) [gv (G0) 0, .val (.int .i64 ((1 : Nat)))] (.val (.int .i64 ((1 + cn (G0) : Nat)))) (gb (mk (G0) (1)) 0) := by
  rw [eG0]
  exact markMatchS.tn r0 _ (by omega) (by omega)
 have hhG0 : heldMatchS.Ret [old (mk (G0) (1)), .val (.int .i64 ((1 : Nat)))] (.val (.int .i64 ((1 + cn (G0) : Nat)))) [] := by
  rw [eG0]
  exact heldMatchS.hd r0 _ (by omega) (by omega)
 have hs' : sAllMatches.Own [old (X0), old (X1)] (G0) := by
  rw [eX0, eX1, eG0]
  exact hs
 have hp' : pAllMatches.OwnN [old (X0), old (X1)] (G0) := by
  rw [eX0, eX1, eG0]
  exact hp
 have hto0 := Abs.Own.weak (mo := false) hto0
 have heX0 := Abs.Ret.weak (mo := false) heX0
 have hmX0 := Abs.Turn.weak (mo := false) hmX0
 have hto1 := Abs.Own.weak (mo := false) hto1
 have heX1 := Abs.Ret.weak (mo := false) heX1
 have hmX1 := Abs.Turn.weak (mo := false) hmX1
 have heG0 := Abs.Ret.weak (mo := false) heG0
 have hmG0 := Abs.Turn.weak (mo := false) hmG0
 have hhG0 := Abs.Ret.weak (mo := false) hhG0
 have hs' := Abs.Own.weak (mo := false) hs'
 clear hs hp eX0 eX1 eG0
 obtain ⟨B0, hB0⟩ : ∃ B0 : List ABox, B0 = [] := ⟨_, rfl⟩
 have hB0l : B0.length = 0 := by rw [hB0]; rfl
 repeat' first
  | (conv => whnf
     first | refine Need.mk rfl ?_ | refine Fork.decNo (by omega) ?_ | refine ACall.scalA _ _ (Ret.weak (szRuleS.ret _ _ ?_ ?_ ?_)) rfl ?_ | refine ACall.scalA _ _ (Ret.weak (szFactS.ret _ _ ?_ ?_ ?_)) rfl ?_)
 all_goals first
  | assumption
  | omega
  | skip
 conv => whnf
 refine ACall.old [.list none (rows tRule a0)] (X0) hto0 (.cons (SeesB.of0 (Sees0.olds _ _)) .nil) okX0 ?_
 skip
 conv => whnf
 refine ACall.old [.list none (rows tFct a1)] (X1) hto1 (.cons (SeesB.of0 (Sees0.olds _ _)) .nil) okX1 ?_
 repeat' first
  | (conv => whnf
     first | refine unG_old ?_)
 have okR := okG0
 conv => whnf
 refine ACall.old [old (X0), old (X1)] (G0) hs' (.cons (SeesB.of0 (Sees0.old (X0))) (.cons (SeesB.of0 (Sees0.old (X1))) .nil)) okR ?_
 skip
 conv => whnf
 refine ACall.unbN' (0) (B0 ++ gb (X0) (0)) [.list none (rows tRule a0)] (X0) hto0 (.cons (SeesB.of0 (Sees0.olds _ _)) .nil) (by rfl) (by subst hB0; rfl) ?_
 skip
 conv => whnf
 refine ACall.unbN (0 + nb (X0)) [.list none (rows tFct a1)] (X1) hto1 (.cons (SeesB.of0 (Sees0.olds _ _)) .nil) (by (try simp only [List.length_append, List.length_cons, List.length_nil, length_gb, nb_mk, Nat.zero_add, hB0l]) <;> omega) ?_
 repeat' first
  | (conv => whnf
     first | refine unG_gv ?_)
 conv => whnf
 refine ACall.unbN (0 + nb (X0) + nb (X1)) [old (X0), old (X1)] (G0) hp' (.cons (sees_gv (X0) _ (0) okX0 (by repeat' first | (refine BoxIn.here ?_; (try simp only [List.length_append, List.length_cons, List.length_nil, length_gb, nb_mk, Nat.zero_add, hB0l]) <;> omega) | refine BoxIn.more ?_ _)) (.cons (sees_gv (X1) _ (0 + nb (X0)) okX1 (by repeat' first | (refine BoxIn.here ?_; (try simp only [List.length_append, List.length_cons, List.length_nil, length_gb, nb_mk, Nat.zero_add, hB0l]) <;> omega) | refine BoxIn.more ?_ _)) .nil)) (by (try simp only [List.length_append, List.length_cons, List.length_nil, length_gb, nb_mk, Nat.zero_add, hB0l]) <;> omega) ?_
 repeat' first
  | (conv => whnf
     first | refine unG_old ?_ | refine unG_gv ?_)
 conv => whnf
 (try refine AGCall.scal ?_)
 first
  | refine ACall.scal [old (G0), old (G0)] _ heG0 rfl (.cons (sees_gv (G0) _ (0 + nb (X0) + nb (X1)) okG0 (by repeat' first | (refine BoxIn.here ?_; (try simp only [List.length_append, List.length_cons, List.length_nil, length_gb, nb_mk, Nat.zero_add, hB0l]) <;> omega) | refine BoxIn.more ?_ _)) (.cons (SeesB.of0 (Sees0.old (G0))) .nil)) ?_
  | refine AQCall.mk [old (G0), old (G0)] _ (fun _ => heG0) rfl (fun _ => .cons (sees_gv (G0) _ (0 + nb (X0) + nb (X1)) okG0 (by repeat' first | (refine BoxIn.here ?_; (try simp only [List.length_append, List.length_cons, List.length_nil, length_gb, nb_mk, Nat.zero_add, hB0l]) <;> omega) | refine BoxIn.more ?_ _)) (.cons (SeesB.of0 (Sees0.old (G0))) .nil)) ?_
 repeat' first
  | contradiction
  | (conv => whnf
     first | refine Fork.neg (fun _ => ?_) (fun _ => ?_) | refine forceK_of ?_ | refine forceBx_of ?_)
 all_goals try (exfalso; rename_i hx; simp at hx; done)
 conv => whnf
 refine ACall.old [.list none (rows tRule a0)] (X0) hto0 (.cons (SeesB.of0 (Sees0.olds _ _)) .nil) okX0 ?_
 repeat' first
  | (conv => whnf
     first | refine unG_old ?_ | refine unG_gv ?_)
 conv => whnf
 refine ACall.scal [old (X0), old (X0)] _ heX0 rfl (.cons (sees_gv (X0) _ (0) okX0 (by repeat' first | (refine BoxIn.here ?_; (try simp only [List.length_append, List.length_cons, List.length_nil, length_gb, nb_mk, Nat.zero_add, hB0l]) <;> omega) | refine BoxIn.more ?_ _)) (.cons (SeesB.of0 (Sees0.old (X0))) .nil)) ?_
 repeat' first
  | contradiction
  | (conv => whnf
     first | refine Fork.neg (fun _ => ?_) (fun _ => ?_) | refine forceK_of ?_ | refine forceBx_of ?_)
 conv => whnf
 refine ACall.old [.list none (rows tFct a1)] (X1) hto1 (.cons (SeesB.of0 (Sees0.olds _ _)) .nil) okX1 ?_
 repeat' first
  | (conv => whnf
     first | refine unG_old ?_ | refine unG_gv ?_)
 conv => whnf
 refine ACall.scal [old (X1), old (X1)] _ heX1 rfl (.cons (sees_gv (X1) _ (0 + nb (X0)) okX1 (by repeat' first | (refine BoxIn.here ?_; (try simp only [List.length_append, List.length_cons, List.length_nil, length_gb, nb_mk, Nat.zero_add, hB0l]) <;> omega) | refine BoxIn.more ?_ _)) (.cons (SeesB.of0 (Sees0.old (X1))) .nil)) ?_
 repeat' first
  | contradiction
  | (conv => whnf
     first | refine Fork.neg (fun _ => ?_) (fun _ => ?_) | refine forceK_of ?_ | refine forceBx_of ?_ | refine unG_gv ?_)
 conv => whnf
 refine ACall.turnT (0) _ [gv (X0) 0, .val (.int .i64 ((1 : Nat)))] (X0) (mk (X0) (1)) _ hmX0 rfl (nb_mk _ _) (.cons (.inl ⟨rfl, rfl⟩) (.cons (.inr (Sees0.val _)) .nil)) (by repeat' first | (refine TAt.here ?_; (try simp only [List.length_append, List.length_cons, List.length_nil, length_gb, nb_mk, Nat.zero_add, hB0l]) <;> omega) | apply TAt.more) ?_
 repeat' first
  | (conv => whnf
     first | refine unG_gv ?_)
 conv => whnf
 refine ACall.turnT (0 + nb (X0)) _ [gv (X1) 0, .val (.int .i64 ((1 + cn (X0) : Nat)))] (X1) (mk (X1) (1 + cn (X0))) _ hmX1 rfl (nb_mk _ _) (.cons (.inl ⟨rfl, rfl⟩) (.cons (.inr (Sees0.val _)) .nil)) (by repeat' first | (refine TAt.here ?_; (try simp only [List.length_append, List.length_cons, List.length_nil, length_gb, nb_mk, Nat.zero_add, hB0l]) <;> omega) | apply TAt.more) ?_
 repeat' first
  | (conv => whnf
     first | refine Need.mk (fun h => h) ?_ | refine Need.mk rfl ?_ | refine unG_old ?_ | refine unG_gv ?_)
 conv => whnf
 (try refine AGCall.scal ?_)
 first
  | refine ACall.scal [old (G0), old (G0)] _ heG0 rfl (.cons (sees_gv (G0) _ (0 + nb (X0) + nb (X1)) okG0 (by repeat' first | (refine BoxIn.here ?_; (try simp only [List.length_append, List.length_cons, List.length_nil, length_gb, nb_mk, Nat.zero_add, hB0l]) <;> omega) | refine BoxIn.more ?_ _)) (.cons (SeesB.of0 (Sees0.old (G0))) .nil)) ?_
  | refine AQCall.mk [old (G0), old (G0)] _ (fun _ => heG0) rfl (fun _ => .cons (sees_gv (G0) _ (0 + nb (X0) + nb (X1)) okG0 (by repeat' first | (refine BoxIn.here ?_; (try simp only [List.length_append, List.length_cons, List.length_nil, length_gb, nb_mk, Nat.zero_add, hB0l]) <;> omega) | refine BoxIn.more ?_ _)) (.cons (SeesB.of0 (Sees0.old (G0))) .nil)) ?_
 repeat' first
  | contradiction
  | (conv => whnf
     first | refine Need.mk (fun h => h) ?_ | refine Fork.mk (fun _ => ?_) (fun _ => ?_) | refine forceK_of ?_ | refine forceBx_of ?_ | refine unG_gv ?_)
 all_goals try (exfalso; rename_i hx; simp at hx; done)
 conv => whnf
 refine ACall.turnT (0 + nb (X0) + nb (X1)) _ [gv (G0) 0, .val (.int .i64 ((1 : Nat)))] (G0) (mk (G0) (1)) _ hmG0 rfl (nb_mk _ _) (.cons (.inl ⟨rfl, rfl⟩) (.cons (.inr (Sees0.val _)) .nil)) (by repeat' first | (refine TAt.here ?_; (try simp only [List.length_append, List.length_cons, List.length_nil, length_gb, nb_mk, Nat.zero_add, hB0l]) <;> omega) | apply TAt.more) ?_
 repeat' first
  | (conv => whnf
     first | refine unG_gv ?_)
 conv => whnf
 refine ACall.scal [old (mk (G0) (1)), .val (.int .i64 ((1 : Nat)))] _ hhG0 rfl (.cons (sees_mk (G0) (1) _ (0 + nb (X0) + nb (X1)) okG0 (by repeat' first | (refine BoxIn.here ?_; (try simp only [List.length_append, List.length_cons, List.length_nil, length_gb, nb_mk, Nat.zero_add, hB0l]) <;> omega) | refine BoxIn.more ?_ _)) (.cons (SeesB.of0 (Sees0.val _)) .nil)) ?_
 repeat' first
  | contradiction
  | (conv => whnf
     first | refine Need.mk rfl ?_ | refine Fork.no (by assumption) ?_ | refine Fork.bne (fun _ => ?_) (fun _ => ?_) | refine forceK_of ?_ | refine forceBx_of ?_)
 conv => whnf
 refine ACall.old [.list none (rows tRule a0)] (X0) hto0 (.cons (SeesB.of0 (Sees0.olds _ _)) .nil) okX0 ?_
 skip
 conv => whnf
 refine ACall.old [.list none (rows tFct a1)] (X1) hto1 (.cons (SeesB.of0 (Sees0.olds _ _)) .nil) okX1 ?_
 repeat' first
  | (conv => whnf
     first | refine unG_old ?_)
 conv => whnf
 refine ACall.old [old (X0), old (X1)] (G0) hp' (.cons (SeesB.of0 (Sees0.old (X0))) (.cons (SeesB.of0 (Sees0.old (X1))) .nil)) okR ?_
 repeat' first
  | (conv => whnf
     first | refine unG_old ?_)
 conv => whnf
 (try refine AGCall.scal ?_)
 first
  | refine ACall.scal [old (G0), old (G0)] _ heG0 rfl (.cons (SeesB.of0 (Sees0.old (G0))) (.cons (SeesB.of0 (Sees0.old (G0))) .nil)) ?_
  | refine AQCall.mk [old (G0), old (G0)] _ (fun _ => heG0) rfl (fun _ => .cons (SeesB.of0 (Sees0.old (G0))) (.cons (SeesB.of0 (Sees0.old (G0))) .nil)) ?_
 repeat' first
  | (conv => whnf
     first | refine Fork.no (by assumption) ?_ | refine forceK_of ?_ | refine forceBx_of ?_ | refine unG_gv ?_)
 all_goals try (exfalso; rename_i hx; simp at hx; done)
 conv => whnf
 refine ACall.scal [old (mk (G0) (1)), .val (.int .i64 ((1 : Nat)))] _ hhG0 rfl (.cons (sees_mk (G0) (1) _ (0 + nb (X0) + nb (X1)) okG0 (by repeat' first | (refine BoxIn.here ?_; (try simp only [List.length_append, List.length_cons, List.length_nil, length_gb, nb_mk, Nat.zero_add, hB0l]) <;> omega) | refine BoxIn.more ?_ _)) (.cons (SeesB.of0 (Sees0.val _)) .nil)) ?_
 repeat' first
  | contradiction
  | (conv => whnf
     first | refine Need.mk rfl ?_ | refine Fork.no (by assumption) ?_ | refine Fork.bne (fun _ => ?_) (fun _ => ?_) | refine forceK_of ?_ | refine forceBx_of ?_ | refine FinVal.keep ?_ | refine Final.mk rfl rfl)
open Abs
def tInts : Ty (List Int) := Ty.plain 3 Ty.int (fun _ => rfl) (fun _ => rfl)
theorem tInts_size (l : List Int) : tInts.size l = l.length + listSize Ty.int l := rfl
end Go.Proofs.YtoindmahilbalaaGreat
namespace Go.Proofs.YtoindmahilbalaaGreat
namespace Abs
open Go.RowKit
mutual
def tkT : Tr → Nat → AV
 | .v x, _ => .val x
 | .s x, _ => .str x
 | .l _ _ xs, n => .list (some (n + nbLL xs)) (tkLL xs n)
 | .a fs, n => .agg (tkL fs n)
 | .p fs, n => .tup (tkL fs n)
def tkL : List Tr → Nat → List AV
 | [], _ => []
 | x :: xs, n => tkT x n :: tkL xs (n + nb x)
def tkLL : List (List Tr) → Nat → List (List AV)
 | [], _ => []
 | x :: xs, n => tkL x n :: tkLL xs (n + nbL x)
end
mutual
def frT : Tr → Fr
 | .v _ => []
 | .s _ => []
 | .l t sz xs => frLL xs ++ [(t, sz, xs.length)]
 | .a fs => frL fs
 | .p fs => frL fs
def frL : List Tr → Fr
 | [] => []
 | x :: xs => frT x ++ frL xs
def frLL : List (List Tr) → Fr
 | [] => []
 | x :: xs => frL x ++ frLL xs
end
mutual
theorem length_frT : ∀ x : Tr, (frT x).length = nb x
 | .v _ => rfl
 | .s _ => rfl
 | .l _ _ xs => by rw [frT, nb, List.length_append, length_frLL xs]; rfl
 | .a fs => by rw [frT, nb, length_frL fs]
 | .p fs => by rw [frT, nb, length_frL fs]
theorem length_frL : ∀ x : List Tr, (frL x).length = nbL x
 | [] => rfl
 | x :: xs => by rw [frL, nbL, List.length_append, length_frT x, length_frL xs]
theorem length_frLL : ∀ x : List (List Tr), (frLL x).length = nbLL x
 | [] => rfl
 | x :: xs => by rw [frLL, nbLL, List.length_append, length_frL x, length_frLL xs]
end
theorem frL_append : ∀ xs ys, frL (xs ++ ys) = frL xs ++ frL ys
 | [], _ => rfl
 | x :: xs, ys => by rw [List.cons_append, frL, frL, frL_append xs, List.append_assoc]
theorem frLL_flatten : ∀ xs, frLL xs = frL xs.flatten
 | [] => rfl
 | x :: xs => by rw [frLL, List.flatten_cons, frL_append, frLL_flatten xs]
theorem tkL_append : ∀ xs ys n, tkL (xs ++ ys) n = tkL xs n ++ tkL ys (n + nbL xs)
 | [], ys, n => by rw [nbL]; rfl
 | x :: xs, ys, n => by rw [List.cons_append, tkL, tkL, tkL_append xs, nbL, Nat.add_assoc]; rfl
theorem tkLL_flatten : ∀ xs n, (tkLL xs n).flatten = tkL xs.flatten n
 | [], _ => rfl
 | x :: xs, n => by rw [tkLL, List.flatten_cons, List.flatten_cons, tkL_append, tkLL_flatten xs]
theorem length_tkL : ∀ xs n, (tkL xs n).length = xs.length
 | [], _ => rfl
 | x :: xs, n => by rw [tkL, List.length_cons, length_tkL xs]; rfl
theorem length_tkLL : ∀ xs n, (tkLL xs n).length = xs.length
 | [], _ => rfl
 | x :: xs, n => by rw [tkLL, List.length_cons, length_tkLL xs]; rfl
theorem tkLL_sz {sz : Nat} : ∀ xs n, (∀ e ∈ xs, e.length = sz) → ∀ e ∈ tkLL xs n, e.length = sz
 | [], _, _, e, he => by cases he
 | x :: xs, n, h, e, he => by
  rw [tkLL] at he
  rcases List.mem_cons.1 he with rfl | he
  ·rw [length_tkL]; exact h x List.mem_cons_self
  ·exact tkLL_sz xs _ (fun e he => h e (List.mem_cons_of_mem _ he)) e he
def TokOne (B : Nat) (w : World) (x : Tr) (v : Value) (d1 : List Nat) : Prop :=
 ∃ ids : List (Option Nat), ids.length = nb x ∧ (∀ (i b : Nat), ids[i]? = some (some b) → b ∈ d1) ∧ (d1.Nodup → ∀ (i j b : Nat), ids[i]? = some (some b) → ids[j]? = some (some b) → i = j) ∧
  ((∀ d ∈ d1, B ≤ d) → ∀ (n : Nat) (F : Nat → Nat) (tok : List (Option Nat)) (fr : Fr), (∀ (i : Nat) d, ids[i]? = some d → tok[n + i]? = some d) → (∀ (i : Nat) y, (frT x)[i]? = some y → fr[n + i]? = some y) →
    (∀ (i b t s m : Nat), ids[i]? = some (some b) → (frT x)[i]? = some (t, s, m) → F b = m * s) → ∀ box, Rep B w F tok fr box (tkT x n) v)
def TokAll (B : Nat) (w : World) (xs : List Tr) (vs : List Value) (d1 : List Nat) : Prop :=
 ∃ ids : List (Option Nat), ids.length = nbL xs ∧ (∀ (i b : Nat), ids[i]? = some (some b) → b ∈ d1) ∧ (d1.Nodup → ∀ (i j b : Nat), ids[i]? = some (some b) → ids[j]? = some (some b) → i = j) ∧
  ((∀ d ∈ d1, B ≤ d) → ∀ (n : Nat) (F : Nat → Nat) (tok : List (Option Nat)) (fr : Fr), (∀ (i : Nat) d, ids[i]? = some d → tok[n + i]? = some d) → (∀ (i : Nat) y, (frL xs)[i]? = some y → fr[n + i]? = some y) →
    (∀ (i b t s m : Nat), ids[i]? = some (some b) → (frL xs)[i]? = some (t, s, m) → F b = m * s) → ∀ (i : Nat) x v, (tkL xs n)[i]? = some x → vs[i]? = some v → ∀ box, Rep B w F tok fr box x v)
theorem TokAll.cons {B : Nat} {w : World} {x : Tr} {v : Value} {xs : List Tr} {vs : List Value} {d1 ds : List Nat} (h1 : TokOne B w x v d1) (h2 : TokAll B w xs vs ds) : TokAll B w (x :: xs) (v :: vs) (d1 ++ ds) := by
 obtain ⟨ids1, l1, m1, n1, r1⟩ := h1
 obtain ⟨ids2, l2, m2, n2, r2⟩ := h2
 refine ⟨ids1 ++ ids2, by rw [List.length_append, l1, l2, nbL], fun i b hi => ?_, fun hnd i j b hi hj => ?_, fun hB n F tok fr ht hf hF i y u hy hu box => ?_⟩
 ·rw [List.getElem?_append] at hi
  split at hi
  ·exact List.mem_append_left _ (m1 _ _ hi)
  ·exact List.mem_append_right _ (m2 _ _ hi)
 ·obtain ⟨e1, e2, e3⟩ := List.nodup_append.1 hnd
  rw [List.getElem?_append] at hi hj
  split at hi <;> split at hj
  ·exact n1 e1 _ _ _ hi hj
  ·exact absurd rfl (e3 b (m1 _ _ hi) b (m2 _ _ hj))
  ·exact absurd rfl (e3 b (m1 _ _ hj) b (m2 _ _ hi))
  ·have := n2 e2 _ _ _ hi hj; omega
 ·have hfl : (frT x).length = ids1.length := by rw [length_frT, l1]
  cases i with
  | zero =>
   rw [tkL] at hy
   simp only [List.getElem?_cons_zero, Option.some.injEq] at hy hu
   subst hy; subst hu
   refine r1 (fun d hd => hB d (List.mem_append_left _ hd)) n F tok fr (fun i d hi => ht i d (by rw [List.getElem?_append_left (getElem?_lt hi)]; exact hi)) (fun i y hi => hf i y (by rw [frL, List.getElem?_append_left (getElem?_lt hi)]; exact hi)) (fun i b t s m hi hm => hF i b t s m ?_ ?_) box
   ·rw [List.getElem?_append_left (getElem?_lt hi)]; exact hi
   ·rw [frL, List.getElem?_append_left (getElem?_lt hm)]; exact hm
  | succ i =>
   rw [tkL] at hy
   refine r2 (fun d hd => hB d (List.mem_append_right _ hd)) (n + nb x) F tok fr (fun i d hi => ?_) (fun i y hi => ?_) (fun i b t s m hi hm => ?_) i y u (by simpa using hy) (by simpa using hu) box
   ·rw [Nat.add_assoc]; refine ht (nb x + i) d ?_
    rw [List.getElem?_append_right (by omega), l1, Nat.add_sub_cancel_left]; exact hi
   ·rw [Nat.add_assoc]; refine hf (nb x + i) y ?_
    rw [frL, List.getElem?_append_right (by rw [length_frT]; omega), length_frT, Nat.add_sub_cancel_left]; exact hi
   ·refine hF (nb x + i) b t s m ?_ ?_
    ·rw [List.getElem?_append_right (by omega), l1, Nat.add_sub_cancel_left]; exact hi
    ·rw [frL, List.getElem?_append_right (by rw [length_frT]; omega), length_frT, Nat.add_sub_cancel_left]; exact hm
theorem TokOne.flat {B : Nat} {w : World} {x : Tr} {v : Value} (h0 : nb x = 0) (h : ∀ n F tok fr box, Rep B w F tok fr box (tkT x n) v) : TokOne B w x v [] :=
 ⟨[], by rw [h0]; rfl, by simp, by simp, fun _ n F tok fr _ _ _ box => h n F tok fr box⟩
theorem OwnL.toks {B : Nat} {w : World} {xs : List Tr} {vs : List Value} {ds : List Nat} (h : OwnL w xs vs ds) : TokAll B w xs vs ds := by
 induction h with
 | nil => exact ⟨[], rfl, by simp, by simp, fun _ n F tok fr _ _ _ i x v hx => by simp [tkL] at hx⟩
 | v x hp _ ih => exact TokAll.cons (d1 := []) (.flat rfl fun _ _ _ _ _ => .val _) ih
 | s x _ ih => exact TokAll.cons (d1 := []) (.flat rfl fun _ _ _ _ _ => .str _) ih
 | none t sz _ ih =>
  refine TokAll.cons (d1 := []) ⟨[Option.none], rfl, fun i b hi => ?_, fun _ i j b hi hj => ?_, fun _ n F tok fr ht hf _ box => ?_⟩ ih
  ·cases i <;> simp at hi
  ·cases i <;> simp at hi
  ·refine .list (some (n + 0)) [] Option.none 0 sz 0 0 (fun _ _ => undef) (Nat.le_refl _) (fun h => absurd rfl h) (by simp) (fun h => absurd rfl h) (by simp) (by simp) (fun k hk => ?_)
   cases hk
   exact ⟨t, sz, 0, hf 0 _ rfl, Nat.le_refl _, fun _ => ⟨rfl, ⟨[], by simp, Or.inl ⟨rfl, rfl⟩⟩, ht 0 _ rfl, fun b hb => by cases hb⟩⟩
 | l t sz es b cap c us hb hc hl hm hs hu h1 he _ ih1 ih2 =>
  refine TokAll.cons (d1 := b :: _) ?_ ih2
  obtain ⟨ids, l1, m1, n1, r1⟩ := ih1
  rw [← nbLL_flatten] at l1
  have last : ∀ {i : Nat} {d : Option Nat}, (ids ++ [some b])[i]? = some d → ids[i]? = some d ∨ (i = ids.length ∧ d = some b) := fun {i d} hi => by
   rw [List.getElem?_append] at hi
   split at hi
   ·exact .inl hi
   ·rw [List.getElem?_singleton] at hi
    split at hi
    ·cases hi; exact .inr ⟨by omega, rfl⟩
    ·cases hi
  refine ⟨ids ++ [some b], by rw [List.length_append, l1, nb]; rfl, fun i b' hi => ?_, fun hnd i j b' hi hj => ?_, fun hB n F tok fr ht hf hF box => ?_⟩
  ·rcases last hi with hi | ⟨_, hi⟩
   ·exact List.mem_cons_of_mem _ (m1 _ _ hi)
   ·cases hi; exact List.mem_cons_self
  ·obtain ⟨e1, e2⟩ := List.nodup_cons.1 hnd
   rcases last hi with hi | ⟨hi, hi'⟩ <;> rcases last hj with hj | ⟨hj, hj'⟩
   ·exact n1 e2 _ _ _ hi hj
   ·cases hj'; exact absurd (m1 _ _ hi) e1
   ·cases hi'; exact absurd (m1 _ _ hj) e1
   ·omega
  ·have hlast : (frT (.l t sz es))[nbLL es]? = some (t, sz, es.length) := by
    rw [frT, List.getElem?_append_right (by rw [length_frLL]; omega), length_frLL, Nat.sub_self]; rfl
   have hFb : F b = es.length * sz := hF (nbLL es) b t sz es.length (by rw [List.getElem?_append_right (by omega), l1, Nat.sub_self]; rfl) hlast
   have hin := r1 (fun d hd => hB d (List.mem_cons_of_mem _ hd)) n F tok fr (fun i d hi => ht i d (by rw [List.getElem?_append_left (getElem?_lt hi)]; exact hi))
    (fun i y hi => hf i y (by rw [frT, frLL_flatten, List.getElem?_append_left (getElem?_lt hi)]; exact hi))
    (fun i b' t' s' m' hi hm' => hF i b' t' s' m' (by rw [List.getElem?_append_left (getElem?_lt hi)]; exact hi) (by rw [frT, frLL_flatten, List.getElem?_append_left (getElem?_lt hm')]; exact hm'))
   have hlen : (tkLL es n).length = es.length := length_tkLL es n
   have hsz : ∀ e ∈ tkLL es n, e.length = sz := tkLL_sz es n hs
   have hcs : es.length * sz ≤ c.size := by rw [hc]; exact Nat.mul_le_mul_right _ hl
   have hul : us.length = es.length * sz := by rw [← hu]; simp; omega
   have key : ∀ (i : Nat) e (j : Nat) y, (tkLL es n)[i]? = some e → e[j]? = some y → i * sz + j < c.size ∧ us[i * sz + j]? = some (c.getD (i * sz + j) undef) ∧ Rep B w F tok fr [] y (c.getD (i * sz + j) undef) := fun i e j y hi hj => by
    have hf := flatten_get sz (tkLL es n) i j e y hsz hi hj
    rw [tkLL_flatten] at hf
    have hlt : i * sz + j < us.length := by
     have := getElem?_lt hf
     rw [length_tkL] at this
     rw [← he.length]; exact this
    obtain ⟨g1, g2⟩ := getD_take hu hlt
    exact ⟨g2, g1, hin _ y _ hf g1 []⟩
   show Rep B w F tok fr box (.list (some (n + nbLL es)) (tkLL es n)) (.slice (some ⟨b, 0, Option.none⟩) es.length cap)
   rw [← hlen]
   refine .list (some (n + nbLL es)) (tkLL es n) _ cap sz b 0 (fun i j => c.getD (i * sz + j) undef) (by omega) (fun _ => rfl) hsz (fun _ => ?_) (fun i e j y hi hj => ?_) (fun i e j y hi hj => (key i e j y hi hj).2.2) (fun k hk => ?_)
   ·rw [hFb, hlen, Nat.zero_add]; exact Nat.le_refl _
   ·obtain ⟨k1, k2, _⟩ := key i e j y hi hj
    exact ⟨by rw [Nat.zero_add]; simp [World.cell?, hb, k1, Array.getD], h1 _ (List.mem_of_getElem? k2)⟩
   ·cases hk
    rw [hlen]
    refine ⟨t, sz, es.length, hf _ _ hlast, Nat.le_refl _, fun _ => ⟨rfl, ⟨us, hul, Or.inr ⟨b, cap, c, rfl, hB b List.mem_cons_self, hb, hl, hm, hc, hu⟩⟩, ?_, fun b' hb' => by cases hb'; exact hFb⟩⟩
    exact ht (nbLL es) _ (by rw [List.getElem?_append_right (by omega), l1, Nat.sub_self]; rfl)
 | a fs us h1 he _ ih1 ih2 =>
  refine TokAll.cons ?_ ih2
  obtain ⟨ids, l1, m1, n1, r1⟩ := ih1
  refine ⟨ids, by rw [l1, nb], m1, n1, fun hB n F tok fr ht hf hF box => ?_⟩
  have hin := r1 hB n F tok fr ht (by rw [frT] at hf; exact hf) (by rw [frT] at hF; exact hF)
  have hl := he.length
  have hg : ∀ i, i < us.size → us.toList[i]? = some (us.getD i undef) := fun i hi => by simp [Array.getD, hi]
  rw [tkT]
  refine .agg _ us (by rw [length_tkL]; simpa using hl) (fun i hi => h1 _ (List.mem_of_getElem? (hg i hi))) (fun i c hc => ?_)
  have := getElem?_lt hc
  rw [length_tkL] at this
  exact hin i c _ hc (hg i (by simp at hl; omega)) box
 | p fs us he _ ih1 ih2 =>
  refine TokAll.cons ?_ ih2
  obtain ⟨ids, l1, m1, n1, r1⟩ := ih1
  refine ⟨ids, by rw [l1, nb], m1, n1, fun hB n F tok fr ht hf hF box => ?_⟩
  have hin := r1 hB n F tok fr ht (by rw [frT] at hf; exact hf) (by rw [frT] at hF; exact hF)
  have hl := he.length
  have hg : ∀ i, i < us.size → us.toList[i]? = some (us.getD i undef) := fun i hi => by simp [Array.getD, hi]
  rw [tkT]
  refine .tup _ us (by rw [length_tkL]; simpa using hl) (fun i c hc => ?_)
  have := getElem?_lt hc
  rw [length_tkL] at this
  exact hin i c _ hc (hg i (by simp at hl; omega)) box
variable {mo : Bool}
theorem ORet.ret {P : Program} {f : Nat} {args : List AV} {x : Tr} (h : ORet mo P f args x) : ARet mo P f args (tkT x 0) (frT x) := by
 refine ⟨h.1, fun w F vs hout hargs => (h.2 w F vs hout hargs).mono ?_⟩
 rintro e w' ⟨v, ds, rfl, hb, hown, hnd, hds⟩
 obtain ⟨ids, l1, m1, n1, r1⟩ := hown.toks (B := w.heap.size)
 have hfl : frL [x] = frT x := by rw [frL, frL, List.append_nil]
 rw [show nbL [x] = nb x by rw [nbL, nbL, Nat.add_zero]] at l1
 -- what is known of a block's length
 let G : Nat → Option (Option Nat × (Nat × Nat × Nat)) := fun b => (ids.zip (frT x)).find? fun p => p.1 == some b
 have hG : ∀ b p, G b = some p → b ∈ ds := fun b p hp => by
  have h1 := List.find?_some hp
  have h2 := List.mem_of_find?_eq_some hp
  obtain ⟨i, hi⟩ := List.getElem?_of_mem (List.of_mem_zip h2).1
  rw [beq_iff_eq] at h1
  exact m1 i b (by rw [hi, h1])
 refine ⟨v, fun b => match G b with | some p => p.2.2.2 * p.2.2.1 | none => F b, ids, [], rfl, hb, fun b hlt => ?_, fun b hge => ?_, by rw [l1, length_frT], fun k b hk => hds b (m1 k b hk), fun k l b hk hl => n1 hnd k l b hk hl, ?_⟩
 ·cases hg : G b with
  | none => simp only [hg]
  | some p => have := (hds b (hG b p hg)).1; omega
 ·cases hg : G b with
  | none => simp only [hg]; exact hout b (Nat.le_trans hb.size hge)
  | some p => have := (hds b (hG b p hg)).2; omega
 ·refine r1 (fun d hd => (hds d hd).1) 0 _ ids (frT x) (fun i d hi => by rw [Nat.zero_add]; exact hi) (fun i y hi => by rw [Nat.zero_add, ← hfl]; exact hi) (fun i b t s m hi hm => ?_) 0 _ v (by rw [tkL]; rfl) rfl []
  rw [hfl] at hm
  have hz : (ids.zip (frT x))[i]? = some (some b, (t, s, m)) := by rw [List.getElem?_zip_eq_some]; exact ⟨hi, hm⟩
  cases hg : G b with
  | none =>
   have := List.find?_eq_none.1 hg _ (List.mem_of_getElem? hz)
   simp at this
  | some p =>
   have h1 := List.find?_some hg
   obtain ⟨j, hj⟩ := List.getElem?_of_mem (List.mem_of_find?_eq_some hg)
   rw [beq_iff_eq] at h1
   obtain ⟨j1, j2⟩ := List.getElem?_zip_eq_some.1 hj
   rw [h1] at j1
   have := n1 hnd i j b hi j1
   subst this
   rw [hm] at j2
   simp only [hg]
   rw [← Option.some.inj j2]
theorem Own.ret {P : Program} {f : Nat} {args : List AV} {x : Tr} (h : Own mo P f args x) : Ret mo P f args (tkT x 0) (frT x) := by
 rw [Own_eq] at h; rw [Ret_eq]; exact h.ret
def Canon {α : Type} (T : Ty α) : Prop := ∀ a, (∀ n, T.tk a n = tkL (T.q a) n) ∧ T.fr a = frL (T.q a)
mutual
theorem tkT_old : ∀ (x : Tr) (n : Nat), nb x = 0 → tkT x n = old x
 | .v _, _, _ => rfl
 | .s _, _, _ => rfl
 | .l _ _ xs, _, h => by rw [nb] at h; omega
 | .a fs, n, h => by rw [nb] at h; rw [tkT, old, tkL_old fs n h]
 | .p fs, n, h => by rw [nb] at h; rw [tkT, old, tkL_old fs n h]
theorem tkL_old : ∀ (x : List Tr) (n : Nat), nbL x = 0 → tkL x n = oldL x
 | [], _, _ => rfl
 | x :: xs, n, h => by rw [nbL] at h; rw [tkL, oldL, tkT_old x n (by omega), tkL_old xs _ (by omega)]
end
theorem tkLL_old : ∀ (x : List (List Tr)) (n : Nat), nbLL x = 0 → tkLL x n = oldLL x
 | [], _, _ => rfl
 | x :: xs, n, h => by rw [nbLL] at h; rw [tkLL, oldLL, tkL_old x n (by omega), tkLL_old xs _ (by omega)]
theorem Canon.fr {α : Type} {T : Ty α} (h : Canon T) (a : α) : (T.fr a).length = nbL (T.q a) := by rw [(h a).2, length_frL]
theorem Canon.str : Canon Ty.str := fun _ => ⟨fun _ => rfl, rfl⟩
theorem Canon.pair {α β : Type} {T : Ty α} {U : Ty β} (h : Canon T) (k : Canon U) : Canon (Ty.pair T U) := fun a => by
 refine ⟨fun n => ?_, ?_⟩
 ·show T.tk a.1 n ++ U.tk a.2 (n + (T.fr a.1).length) = tkL (T.q a.1 ++ U.q a.2) n
  rw [tkL_append, (h a.1).1, (k a.2).1, h.fr]
 ·show T.fr a.1 ++ U.fr a.2 = frL (T.q a.1 ++ U.q a.2)
  rw [frL_append, (h a.1).2, (k a.2).2]
theorem Canon.tks {α : Type} {T : Ty α} (h : Canon T) : ∀ (l : List α) (n : Nat), Abs.tks T l n = tkLL (l.map T.q) n
 | [], _ => rfl
 | a :: l, n => by rw [Abs.tks, List.map_cons, tkLL, (h a).1, h.fr, h.tks l]
theorem Canon.frs {α : Type} {T : Ty α} (h : Canon T) : ∀ (l : List α), Abs.frs T l = frLL (l.map T.q)
 | [] => rfl
 | a :: l => by
  rw [List.map_cons, frLL, ← h.frs l, ← (h a).2]; rfl
theorem Canon.list {α : Type} {T : Ty α} (t : Nat) (h : Canon T) : Canon (Ty.list t T) := fun l => by
 have hf := h.frs l
 refine ⟨fun n => ?_, ?_⟩
 ·show [AV.list (some (n + (Abs.frs T l).length)) (Abs.tks T l n)] = tkL [.l t T.sz (l.map T.q)] n
  rw [tkL, tkL, tkT, h.tks, hf, length_frLL]
 ·show Abs.frs T l ++ [(t, T.sz, l.length)] = frL [.l t T.sz (l.map T.q)]
  rw [frL, frL, frT, hf, List.append_nil, List.length_map]
theorem Canon.plain {α : Type} {T : Ty α} (t : Nat) (h : ∀ a, T.fr a = []) (e : ∀ a, T.tk a 0 = oldL (T.q a)) (hc : Canon T) : Canon (Ty.plain t T h e) := fun l => by
 have h0 : nbLL (l.map T.q) = 0 := by
  induction l with
  | nil => rfl
  | cons a l ih => rw [List.map_cons, nbLL, ih, ← hc.fr a, h]; rfl
 have hf : frLL (l.map T.q) = [] := List.eq_nil_of_length_eq_zero (by rw [length_frLL, h0])
 refine ⟨fun n => ?_, ?_⟩
 ·show [AV.list (some n) (oldLL (l.map T.q))] = tkL [.l t T.sz (l.map T.q)] n
  rw [tkL, tkL, tkT, h0, tkLL_old _ _ h0]; rfl
 ·show [(t, T.sz, l.length)] = frL [.l t T.sz (l.map T.q)]
  rw [frL, frL, frT, hf, List.length_map]; rfl
theorem Canon.ret {α : Type} {T : Ty α} (hc : Canon T) {P : Program} {f : Nat} {args : List AV} {a : α} {x : Tr} {r : AV} (hx : T.q a = [x]) (hr : T.tk a 0 = [r]) (h : Own mo P f args x) : Ret mo P f args r (T.fr a) := by
 have h1 := h.ret
 obtain ⟨c1, c2⟩ := hc a
 have e1 := c1 0
 rw [hr, hx, tkL, tkL] at e1
 rw [hx, frL, frL, List.append_nil] at c2
 rw [(List.cons.inj e1).1, c2]; exact h1
theorem Canon.retA {α : Type} {T : Ty α} (hc : Canon T) {P : Program} {f : Nat} {args : List AV} {a : α} (h : Own mo P f args (.a (T.q a))) : Ret mo P f args (.agg (T.tk a 0)) (T.fr a) := by
 have h1 := h.ret
 obtain ⟨c1, c2⟩ := hc a
 rw [c1, c2]; exact h1
end Abs
end Go.Proofs.YtoindmahilbalaaGreat
namespace Go.Proofs.YtoindmahilbalaaGreat
namespace Abs
variable {α : Type}
theorem OwnA.mono {F F' : Fr} {xs : List Tr} {cs : List AV} {ts : List Nat} (h : OwnA F xs cs ts) : (∀ k ∈ ts, F'[k]? = F[k]?) → OwnA F' xs cs ts := by
 induction h with
 | nil => exact fun _ => .nil
 | v x hp _ ih => exact fun hF => .v x hp (ih hF)
 | s x _ ih => exact fun hF => .s x (ih hF)
 | nils t sz _ ih => exact fun hF => .nils t sz (ih hF)
 | l t sz es k ys hk hl hs hy _ _ ih1 ih2 =>
  exact fun hF => .l t sz es k ys (by rw [hF k (by simp)]; exact hk) hl hs hy (ih1 fun j hj => hF j (by simp [hj])) (ih2 fun j hj => hF j (by simp [hj]))
 | a fs us _ _ ih1 ih2 => exact fun hF => .a fs us (ih1 fun j hj => hF j (by simp [hj])) (ih2 fun j hj => hF j (by simp [hj]))
 | av fs us h1 _ _ ih1 ih2 => exact fun hF => .av fs us h1 (ih1 fun j hj => hF j (by simp [hj])) (ih2 fun j hj => hF j (by simp [hj]))
 | p fs us _ _ ih1 ih2 => exact fun hF => .p fs us (ih1 fun j hj => hF j (by simp [hj])) (ih2 fun j hj => hF j (by simp [hj]))
theorem OwnA.lt {F : Fr} {xs : List Tr} {cs : List AV} {ts : List Nat} (h : OwnA F xs cs ts) : ∀ k ∈ ts, k < F.length := by
 induction h with
 | nil => simp
 | v _ _ _ ih => exact ih
 | s _ _ ih => exact ih
 | nils _ _ _ ih => exact ih
 | l t sz es k ys hk _ _ _ _ _ ih1 ih2 =>
  intro j hj
  simp only [List.cons_append, List.mem_cons, List.mem_append] at hj
  rcases hj with rfl | hj | hj
  ·exact getElem?_lt hk
  ·exact ih1 j hj
  ·exact ih2 j hj
 | a _ _ _ _ ih1 ih2 => exact fun j hj => (List.mem_append.1 hj).elim (ih1 j) (ih2 j)
 | av _ _ _ _ _ ih1 ih2 => exact fun j hj => (List.mem_append.1 hj).elim (ih1 j) (ih2 j)
 | p _ _ _ _ ih1 ih2 => exact fun j hj => (List.mem_append.1 hj).elim (ih1 j) (ih2 j)
theorem OwnA.len {F : Fr} {xs : List Tr} {cs : List AV} {ts : List Nat} (h : OwnA F xs cs ts) : xs.length = cs.length := by
 induction h <;> simp_all
structure AccO (T : Ty α) (t k : Nat) (F : Fr) (al : List α) (ys : List (List AV)) (ts : List Nat) : Prop where
 hk : F[k]? = some (t, T.sz, al.length)
 hl : ys.length = al.length
 hs : ∀ y ∈ ys, y.length = T.sz
 own : OwnA F (al.map T.q).flatten ys.flatten ts
 nd : ts.Nodup
 kn : k ∉ ts
theorem AccO.nil {T : Ty α} {t k : Nat} {F : Fr} (hk : F[k]? = some (t, T.sz, 0)) : AccO T t k F [] [] [] := ⟨hk, rfl, by simp, .nil, List.nodup_nil, by simp⟩
theorem AccO.klt {T : Ty α} {t k : Nat} {F : Fr} {al : List α} {ys : List (List AV)} {ts : List Nat} (h : AccO T t k F al ys ts) : k < F.length := getElem?_lt h.hk
theorem AccO.grow {T : Ty α} {t k : Nat} {F : Fr} {al : List α} {ys : List (List AV)} {ts : List Nat} (h : AccO T t k F al ys ts) (G : Fr) : AccO T t k (F ++ G) al ys ts :=
 ⟨by rw [List.getElem?_append_left h.klt]; exact h.hk, h.hl, h.hs, h.own.mono fun j hj => List.getElem?_append_left (h.own.lt j hj), h.nd, h.kn⟩
theorem AccO.app {T : Ty α} {t k : Nat} {F : Fr} {al : List α} {ys : List (List AV)} {ts : List Nat} (h : AccO T t k F al ys ts) {m : Nat} (bs : List α) (zs : List (List AV)) (us : List Nat) (hm : m = al.length + bs.length) (hl : zs.length = bs.length) (hs : ∀ z ∈ zs, z.length = T.sz)
 (ho : OwnA F (bs.map T.q).flatten zs.flatten us) (hn : us.Nodup) (hd : ∀ j ∈ us, j ≠ k ∧ j ∉ ts) : AccO T t k (F.set k (t, T.sz, m)) (al ++ bs) (ys ++ zs) (ts ++ us) where
 hk := by rw [List.getElem?_set, if_pos rfl, if_pos h.klt, hm, List.length_append]
 hl := by rw [List.length_append, List.length_append, h.hl, hl]
 hs y hy := (List.mem_append.1 hy).elim (h.hs y) (hs y)
 own := by
  rw [List.map_append, List.flatten_append, List.flatten_append]
  refine OwnA.append (h.own.mono fun j hj => ?_) (ho.mono fun j hj => ?_)
  ·rw [List.getElem?_set, if_neg fun e => h.kn (by rw [e]; exact hj)]
  ·rw [List.getElem?_set, if_neg fun e => (hd j hj).1 e.symm]
 nd := List.nodup_append.2 ⟨h.nd, hn, fun a ha b hb e => (hd b hb).2 (by rw [← e]; exact ha)⟩
 kn hm := (List.mem_append.1 hm).elim h.kn fun hm => (hd k hm).1 rfl
theorem AccO.snoc {T : Ty α} {t k : Nat} {F : Fr} {al : List α} {ys : List (List AV)} {ts : List Nat} (h : AccO T t k F al ys ts) {m : Nat} (a : α) (c : List AV) (us : List Nat) (hm : m = al.length + 1)
 (ho : OwnA F (T.q a) c us) (hn : us.Nodup) (hd : ∀ j ∈ us, j ≠ k ∧ j ∉ ts) : AccO T t k (F.set k (t, T.sz, m)) (al ++ [a]) (ys ++ [c]) (ts ++ us) := by
 have hc : c.length = T.sz := by rw [← ho.len, T.hq]
 exact h.app [a] [c] us hm rfl (fun z hz => by rw [List.mem_singleton.1 hz]; exact hc) (by simpa using ho) hn hd
theorem AccO.final {T : Ty α} {t k : Nat} {F : Fr} {al : List α} {ys : List (List AV)} {ts : List Nat} (h : AccO T t k F al ys ts) : ∃ us, OwnA F [.l t T.sz (al.map T.q)] [.list (some k) ys] us ∧ us.Nodup := by
 refine ⟨k :: ts ++ [], .l t T.sz _ k ys (by rw [h.hk, List.length_map]) (by rw [h.hl, List.length_map]) (fun e he => ?_) h.hs h.own .nil, ?_⟩
 ·obtain ⟨a, _, rfl⟩ := List.mem_map.1 he
  exact T.hq a
 ·rw [List.append_nil]; exact List.nodup_cons.2 ⟨h.kn, h.nd⟩
theorem Ty.tkOwn (T : Ty α) (a : α) {n : Nat} {F : Fr} (h : ∀ (i : Nat) x, (T.fr a)[i]? = some x → F[n + i]? = some x) : ∃ us, OwnA F (T.q a) (T.tk a n) us ∧ us.Nodup ∧ ∀ j ∈ us, n ≤ j ∧ j < n + (T.fr a).length := by
 obtain ⟨us, h1, p1⟩ := T.hown a n F h
 exact ⟨us, h1, p1.symm.nodup (List.nodup_range' _), fun j hj => by have := (p1.mem_iff).1 hj; rw [List.mem_range'_1] at this; exact this⟩
theorem tksOwn (T : Ty α) (l : List α) {n : Nat} {F : Fr} (h : ∀ (i : Nat) x, (frs T l)[i]? = some x → F[n + i]? = some x) : ∃ us, OwnA F (l.map T.q).flatten (tks T l n).flatten us ∧ us.Nodup ∧ ∀ j ∈ us, n ≤ j ∧ j < n + (frs T l).length := by
 obtain ⟨us, h1, p1⟩ := tks_own T F l n h
 exact ⟨us, h1, p1.symm.nodup (List.nodup_range' _), fun j hj => by have := (p1.mem_iff).1 hj; rw [List.mem_range'_1] at this; exact this⟩
theorem AccO.ofTks (T : Ty α) (t : Nat) (l : List α) (F : Fr) : ∃ us, AccO T t (F.length + (frs T l).length) (F ++ (frs T l ++ [(t, T.sz, l.length)])) l (tks T l F.length) us ∧ ∀ j ∈ us, F.length ≤ j ∧ j < F.length + (frs T l).length := by
 obtain ⟨us, h1, h2, h3⟩ := tksOwn T l (n := F.length) (F := F ++ (frs T l ++ [(t, T.sz, l.length)])) (fun i x hi => by
  rw [List.getElem?_append_right (by omega), Nat.add_sub_cancel_left, List.getElem?_append_left (getElem?_lt hi)]; exact hi)
 refine ⟨us, ⟨?_, length_tks _ _ _, tks_sz T l _, h1, h2, fun hm => ?_⟩, h3⟩
 ·rw [List.getElem?_append_right (by omega), Nat.add_sub_cancel_left, List.getElem?_append_right (Nat.le_refl _), Nat.sub_self]; rfl
 ·have := (h3 _ hm).2; omega
theorem Sees0.lists {o : Option Nat} {ys zs : List (List AV)} (hl : ys.length = zs.length) (hs : ∀ (i : Nat) y z, ys[i]? = some y → zs[i]? = some z → y.length = z.length)
 (h : ∀ (i j : Nat) y z a b, ys[i]? = some y → zs[i]? = some z → y[j]? = some a → z[j]? = some b → Sees0 a b) : Sees0 (.list o ys) (.list none zs) := fun {B w F tok fr box v} hx B' box' => by
 cases hx.list_inv with
 | list _ _ a cap sz b off vs hcap ha hsz hF hc hr ho =>
  have hne : zs ≠ [] → ys ≠ [] := fun h e => h (List.eq_nil_of_length_eq_zero (by rw [← hl, e]; rfl))
  have pair : ∀ {i j : Nat} {z : List AV} {d : AV}, zs[i]? = some z → z[j]? = some d → ∃ y c, ys[i]? = some y ∧ y[j]? = some c := fun {i j z d} hi hj => by
   have h1 := getElem?_lt hi
   have h2 := getElem?_lt hj
   have e1 : ys[i]? = some (ys[i]'(by omega)) := List.getElem?_eq_getElem (by omega)
   have e2 := hs i _ _ e1 hi
   exact ⟨_, _, e1, List.getElem?_eq_getElem (by omega)⟩
  rw [hl]
  refine .list none zs a cap sz b off vs (by omega) (fun h => ha (hne h)) (fun e he => ?_) (fun h => by rw [← hl]; exact hF (hne h)) (fun i e j c hi hj => ?_) (fun i e j c hi hj => ?_) (fun l hl' => by cases hl')
  ·obtain ⟨i, hi⟩ := List.getElem?_of_mem he
   have h1 := getElem?_lt hi
   have e1 : ys[i]? = some (ys[i]'(by omega)) := List.getElem?_eq_getElem (by omega)
   rw [← hs i _ _ e1 hi]; exact hsz _ (List.mem_of_getElem? e1)
  ·obtain ⟨y', c', g1, g2⟩ := pair hi hj
   exact hc i y' j c' g1 g2
  ·obtain ⟨y', c', g1, g2⟩ := pair hi hj
   exact h i j y' e c' c g1 hi g2 hj (.rep _ _ (hr i y' j c' g1 g2)) B' []
theorem Sees0.aggs {xs ys : List AV} (h : SeesL Sees0 xs ys) : Sees0 (.agg xs) (.agg ys) := fun {B w F tok fr box v} hx B' box' => by
 cases hx.agg_inv with
 | agg _ vs hl h1 hr =>
  refine .agg ys vs (by rw [← h.length]; exact hl) h1 (fun i c hc => ?_)
  obtain ⟨x, hx', hS⟩ := h.get' hc
  exact hS (.rep _ _ (hr i x hx')) B' box'
theorem Sees0.tups {xs ys : List AV} (h : SeesL Sees0 xs ys) : Sees0 (.tup xs) (.tup ys) := fun {B w F tok fr box v} hx B' box' => by
 cases hx.tup_inv with
 | tup _ vs hl hr =>
  refine .tup ys vs (by rw [← h.length]; exact hl) (fun i c hc => ?_)
  obtain ⟨x, hx', hS⟩ := h.get' hc
  exact hS (.rep _ _ (hr i x hx')) B' box'
theorem Sees0.vals {vs : Array Value} {ys : List AV} (h1 : vs.toList.all (·.oneCell') = true) (h : SeesL Sees0 (vs.toList.map constAV) ys) : Sees0 (.val (.agg vs)) (.agg ys) := fun {B w F tok fr box v} hx B' box' => by
 rw [hx.val_inv]
 have hg : ∀ i, i < vs.size → vs.toList[i]? = some (vs.getD i undef) := fun i hi => by simp [Array.getD, hi]
 refine .agg ys vs (by rw [← h.length]; simp) (fun i hi => List.all_eq_true.1 h1 _ (List.mem_of_getElem? (hg i hi))) (fun i c hc => ?_)
 obtain ⟨x, hx', hS⟩ := h.get' hc
 rw [List.getElem?_map] at hx'
 obtain ⟨u, hu, rfl⟩ := Option.map_eq_some_iff.1 hx'
 have hi := getElem?_lt hu
 rw [hg i (by simpa using hi)] at hu
 cases hu
 exact hS (.rep _ _ (constAV_rep (B := B') (w := w) (F := F) (tok := []) (fr := []) (box := box') _)) B' box'
theorem OwnA.sees {F : Fr} {xs : List Tr} {cs : List AV} {ts : List Nat} (h : OwnA F xs cs ts) : SeesL Sees0 cs (oldL xs) := by
 induction h with
 | nil => exact .nil
 | v x _ _ ih => exact .cons (Sees0.val _) ih
 | s x _ ih => exact .cons (Sees0.str _) ih
 | nils t sz _ ih => exact .cons Sees0.nil ih
 | l t sz es k ys hk hl hs hy he _ ih1 ih2 =>
  refine .cons (Sees0.lists (by rw [hl, oldLL_eq, List.length_map]) (fun i y z hi hz => ?_) (fun i j y z a b hi hz hj hb => ?_)) ih2
  ·rw [oldLL_eq, List.getElem?_map] at hz
   obtain ⟨e, he', rfl⟩ := Option.map_eq_some_iff.1 hz
   rw [hy y (List.mem_of_getElem? hi), List.length_map, hs e (List.mem_of_getElem? he')]
  ·have hsz : ∀ e ∈ oldLL es, e.length = sz := fun e he' => by
    rw [oldLL_eq] at he'
    obtain ⟨e', h', rfl⟩ := List.mem_map.1 he'
    rw [List.length_map]; exact hs e' h'
   have f1 := flatten_get sz ys i j y a hy hi hj
   have f2 := flatten_get sz (oldLL es) i j z b hsz hz hb
   rw [flatten_oldLL] at f2
   obtain ⟨x, hx', hS⟩ := ih1.get' f2
   rw [f1] at hx'
   cases hx'
   exact @hS
 | a fs us _ _ ih1 ih2 => exact .cons (Sees0.aggs ih1) ih2
 | av fs us h1 _ _ ih1 ih2 => exact .cons (Sees0.vals h1 ih1) ih2
 | p fs us _ _ ih1 ih2 => exact .cons (Sees0.tups ih1) ih2
theorem AccO.sees {T : Ty α} {t k : Nat} {F : Fr} {al : List α} {ys : List (List AV)} {ts : List Nat} (h : AccO T t k F al ys ts) : Sees0 (.list (some k) ys) (.list none (rows T al)) := by
 obtain ⟨us, h1, _⟩ := h.final
 cases h1.sees with
 | cons h1 _ => exact h1
theorem plain_retP {mo : Bool} {P : Program} {f : Nat} {args : List AV} {T : Ty α} {t : Nat} {l : List α} {v : Value} (hf : ∀ a, T.fr a = []) (e : ∀ a, T.tk a 0 = oldL (T.q a)) (hc : Canon T) (h : Own mo P f args (.p [.l t T.sz (l.map T.q), .v v])) :
 Ret mo P f args (.tup [.list (some 0) (rows T l), .val v]) [(t, T.sz, l.length)] := by
 have h1 := h.ret
 obtain ⟨c1, c2⟩ := Canon.plain t hf e hc l
 have e1 : tkT (.l t T.sz (l.map T.q)) 0 = .list (some 0) (rows T l) := by
  have : [AV.list (some 0) (rows T l)] = tkL [.l t T.sz (l.map T.q)] 0 := c1 0
  rw [tkL, tkL] at this
  exact (List.cons.inj this).1.symm
 have e2 : frT (.l t T.sz (l.map T.q)) = [(t, T.sz, l.length)] := by
  have : [(t, T.sz, l.length)] = frL [.l t T.sz (l.map T.q)] := c2
  rw [frL, frL, List.append_nil] at this
  exact this.symm
 rw [tkT, tkL, tkL, tkL, e1, tkT, frT, frL, frL, frL, e2] at h1
 exact h1
theorem appK_at {ti sz bytes j : Nat} {xs ys : List (List AV)} {o : Option Nat} {b : List ABox} {f : Fr} {k : AV → List ABox → Fr → Prop} (hf : f[j]? = some (ti, sz, xs.length)) (hs : ∀ c ∈ ys, c.length = sz)
 (hb : (xs.length + ys.length) * bytes ≤ 140737488355328 ∧ xs.length + ys.length ≤ 1099511627776) (hk : k (.list (some j) (xs ++ ys)) b (f.set j (ti, sz, xs.length + ys.length))) : appK ti sz bytes (.list (some j) xs) (.list o ys) b f k := by
 show (match f[j]? with
  | some (t', sz', n) => Need (t' = ti) (Need (sz' = sz) (Need (n = xs.length) (Need (∀ c ∈ ys, c.length = sz) (Need ((xs.length + ys.length) * bytes ≤ 140737488355328 ∧ xs.length + ys.length ≤ 1099511627776)
   (k (.list (some j) (xs ++ ys)) b (f.set j (ti, sz, xs.length + ys.length)))))))
  | none => Stop)
 rw [hf]
 exact Need.mk rfl (Need.mk rfl (Need.mk rfl (Need.mk hs (Need.mk hb hk))))
theorem appK_to {ti sz bytes j : Nat} {xs ys : List (List AV)} {o : Option Nat} {b : List ABox} {f F' : Fr} {k : AV → List ABox → Fr → Prop} (hf : f[j]? = some (ti, sz, xs.length)) (hs : ∀ c ∈ ys, c.length = sz)
 (hb : (xs.length + ys.length) * bytes ≤ 140737488355328 ∧ xs.length + ys.length ≤ 1099511627776) (he : f.set j (ti, sz, xs.length + ys.length) = F') (hk : k (.list (some j) (xs ++ ys)) b F') : appK ti sz bytes (.list (some j) xs) (.list o ys) b f k :=
 appK_at hf hs hb (he ▸ hk)
theorem head_cons {α : Type} {l : List α} {a : α} (h : l[0]? = some a) : ∃ r, l = a :: r := by
 cases l with
 | nil => simp at h
 | cons b r => simp at h; exact ⟨r, by rw [h]⟩
theorem aOps_append {C : Con} {k : Env → List ABox → Fr → Prop} {d ti sz bytes j : Nat} {x y : Operand} {rest : List AO} {e : Env} {xs ys : List (List AV)} {o : Option Nat} {b : List ABox} {f : Fr} (hx : ev e x = .list (some j) xs) (hy : ev e y = .list o ys) (hf : f[j]? = some (ti, sz, xs.length)) (hs : ∀ c ∈ ys, c.length = sz)
 (hb : (xs.length + ys.length) * bytes ≤ 140737488355328 ∧ xs.length + ys.length ≤ 1099511627776) (hk : aOps C k rest (put e (some d) (.list (some j) (xs ++ ys))) b (f.set j (ti, sz, xs.length + ys.length))) : aOps C k (s d (.append ti sz bytes x y) :: rest) e b f := by
 unfold s
 simp only [aOps, aOp, evG, hx, hy, unG]
 exact appK_at hf hs hb hk
end Abs
end Go.Proofs.YtoindmahilbalaaGreat
namespace Go.Proofs.YtoindmahilbalaaGreat
namespace Abs
theorem bx_cons {x y : ABox} {l l' : List ABox} (h : x = y) (h' : l = l') : x :: l = y :: l' := by rw [h, h']
theorem bx_map {m m' : List (Str × Str)} (h : m = m') : ABox.map m = ABox.map m' := by rw [h]
theorem FinalC.all {Φ : AV → List ABox → Fr → Prop} {r : AV} {b : List ABox} {f : Fr} (h : Lends b b) (hk : Φ r b f) : FinalC Φ r b f := ⟨b, h, hk⟩
theorem FinalC.allA {Φ : AV → List ABox → Fr → Prop} {r : AV} {b : List ABox} {f : Fr} (hk : Φ r b f) (h : Lends b b := by repeat' first | exact Lends.nil | refine Lends.map _ ?_ | refine Lends.lend _ _ (by first | exact hx.1 | exact hy.1 | exact noTk_old _ | (intro c hc; rw [List.mem_singleton.1 hc]; rfl) | (intro c hc; cases hc; done)) ?_) : FinalC Φ r b f := ⟨b, h, hk⟩
theorem Lent.weak {mo : Bool} {P : Program} {f : Nat} {b0 : List ABox} {args : List AV} {Φ : AV → List ABox → Fr → Prop} (h : Lent true P f b0 args Φ) : Lent mo P f b0 args Φ := by
 rw [Lent_eq] at *
 exact ⟨h.1, fun w F vs box0 a b c d e g => (h.2 w F vs box0 a b c d e g).mono (by rintro en w' ⟨v, F', box1, tok, frs, r, b1, h1, h2, h3, h4⟩; exact ⟨v, F', box1, tok, frs, r, b1, h1, h2, h3.weak, h4⟩)⟩
theorem ACall.lentE {C : Con} {f : Nat} {vs : List AV} {b : List ABox} {fr : Fr} {k : AV → List ABox → Fr → Prop} (b0 : List ABox) (ys : List AV) (r : AV) (b1 : List ABox) (f1 : Fr) (h : C.lent f b0 ys (fun x y z => x = r ∧ y = b1 ∧ z = f1)) (hb : Lends b b0) (hv : SeesL SeesC vs ys)
 (hk : k (shiftK fr.length r) (merge b b0 b1) (fr ++ f1)) : ACall C true f vs b fr k :=
 .lent rfl b0 ys _ h hb hv (by rintro _ _ _ ⟨rfl, rfl, rfl⟩; exact hk)
theorem ACall.lentS {C : Con} {f : Nat} {vs : List AV} {b : List ABox} {fr : Fr} {k : AV → List ABox → Fr → Prop} (b0 : List ABox) (ys : List AV) (l : List Str) (b1 : List ABox) (f1 : Fr) (h : C.lent f b0 ys (fun x y z => x = .list (some 0) (strs l) ∧ y = b1 ∧ z = f1)) (hb : Lends b b0) (hv : SeesL SeesC vs ys)
 (hk : k (.list (some fr.length) (strs l)) (merge b b0 b1) (fr ++ f1)) : ACall C true f vs b fr k := by
 refine .lent rfl b0 ys _ h hb hv ?_
 rintro _ _ _ ⟨rfl, rfl, rfl⟩
 have e : shiftK fr.length (.list (some 0) (strs l)) = .list (some fr.length) (strs l) := by
  cases fr.length with
  | zero => rfl
  | succ n =>
   show AV.list (some (0 + (n + 1))) (mapTLL _ (strs l)) = _
   rw [strs, mapTLL_old, Nat.zero_add]
 rw [e]; exact hk
section
variable {mo : Bool} {P : Program}
theorem own_post {B : Nat} {w' : World} {F' : Nat → Nat} {tok : List (Option Nat)} {box : List BId} {frs : Fr} {x : Tr} {r : AV} {v : Value} {ts : List Nat} (hrep : Rep B w' F' tok frs box r v) (ho : OwnA frs [x] [r] ts) (hn : ts.Nodup)
 (htin : ∀ (k b : Nat), tok[k]? = some (some b) → B ≤ b ∧ b < w'.heap.size) (htinj : ∀ (k l b : Nat), tok[k]? = some (some b) → tok[l]? = some (some b) → k = l) : ∃ ds, OwnL w' [x] [v] ds ∧ ds.Nodup ∧ ∀ d ∈ ds, B ≤ d ∧ d < w'.heap.size := by
 have hget : ∀ d, d ∈ ts.filterMap (fun k => (tok[k]?).join) → ∃ k ∈ ts, tok[k]? = some (some d) := fun d hd => by
  obtain ⟨k, hk, he⟩ := List.mem_filterMap.1 hd
  cases h : tok[k]? with
  | none => rw [h] at he; cases he
  | some o => rw [h] at he; cases o with
   | none => cases he
   | some b => cases he; exact ⟨k, hk, h⟩
 refine ⟨ts.filterMap fun k => (tok[k]?).join, ho.own (F := F') (box := box) (Both.cons.2 ⟨hrep, rfl, by simp⟩), ?_, fun d hd => ?_⟩
 ·clear hrep ho
  induction ts with
  | nil => simp
  | cons k ts ih =>
   obtain ⟨n1, n2⟩ := List.nodup_cons.1 hn
   have hget' : ∀ d, d ∈ ts.filterMap (fun k => (tok[k]?).join) → ∃ k ∈ ts, tok[k]? = some (some d) := fun d hd => by
    obtain ⟨k, hk, he⟩ := List.mem_filterMap.1 hd
    cases h : tok[k]? with
    | none => rw [h] at he; cases he
    | some o => rw [h] at he; cases o with
     | none => cases he
     | some b => cases he; exact ⟨k, hk, h⟩
   rw [List.filterMap_cons]
   split
   ·exact ih n2 hget'
   ·rename_i b hb'
    refine List.nodup_cons.2 ⟨fun hm => ?_, ih n2 hget'⟩
    obtain ⟨k', hk', he'⟩ := hget' b hm
    have he : tok[k]? = some (some b) := by
     cases h : tok[k]? with
     | none => rw [h] at hb'; cases hb'
     | some o => rw [h] at hb'; cases o with
      | none => cases hb'
      | some b => cases hb'; rfl
    exact n1 (htinj k k' b he he' ▸ hk')
 ·obtain ⟨k, _, hk⟩ := hget d hd
  exact htin k d hk
theorem Own.of_irP {fid : Nat} {fn : Func} {code : ACode} {rs : List RRes} {K : List Nat} {args : List AV} {x : Tr} (hf : P.funcs[fid]? = some fn) (hb : fn.body.isSome = true) (hm : (fn.name == "runtime.NumGoroutine") = false)
 (hn : args.length ≤ fn.ntmps) (hc : cCode P fn.ntmps (fn.body.getD .skip) = code) (hrs : fn.results.toList.map (cRes P) = rs)
 (h : aCode (Kn mo P) K 0 code (doneG rs fun r _ f => ∃ ts, OwnA f [x] [r] ts ∧ ts.Nodup) ⟨argEnv 0 args, [], []⟩) : Own mo P fid args x := by
 rw [Kn_eq] at h; rw [Own_eq]
 obtain ⟨c, hc'⟩ := Option.isSome_iff_exists.1 hb
 rw [hc', Option.getD_some] at hc
 rw [← hc, ← hrs] at h
 refine ⟨okFn_of hf hb hm, fun w F vs hout hargs => (calls_of_code hf hc' hn K h w F vs hout hargs).mono ?_⟩
 rintro e w' ⟨v, F', tok, box, r, b, frs, ⟨ts, ho, hnd⟩, rfl, hb, hold, ho', htl, htin, htinj, hrep⟩
 obtain ⟨ds, h1, h2, h3⟩ := own_post hrep ho hnd htin htinj
 exact ⟨v, ds, rfl, hb, h1, h2, h3⟩
theorem IrAt.ownP {P : Program} {k : Nat} {c : ACode} {K : List Nat} {rs : List RRes} {n : Nat} (q : IrAt P k c K rs n) {mo : Bool} {args : List AV} {x : Tr} (hn : Nat.ble args.length n = true) (h : aCode (Kn mo P) K 0 c (doneG rs fun r _ f => ∃ ts, OwnA f [x] [r] ts ∧ ts.Nodup) ⟨argEnv 0 args, [], []⟩) : Own mo P k args x := by
 obtain ⟨fn, h1, h2, h3, h4, h5, h6, _⟩ := q
 exact Own.of_irP h1 h2 h3 (h4 ▸ Nat.le_of_ble_eq_true hn) h5 h6 h
end
end Abs
open Abs
theorem strs_flatten (l : List Str) : (strs l).flatten = l.map .str := by
 rw [strs_eq]; induction l with
 | nil => rfl
 | cons s l ih => rw [List.map_cons, List.flatten_cons, ih]; rfl
theorem noTk_texts {l : List Str} : ∀ c ∈ l.map AV.str, noTk c = true := fun c hc => by obtain ⟨s, _, rfl⟩ := List.mem_map.1 hc; rfl
theorem str_le {l : List Str} {i : Nat} (hi : i < l.length) : (l.getD i []).length ≤ listSize Ty.str l :=
 listSize_mem Ty.str (List.mem_of_getElem? (by simp [List.getD, hi] : l[i]? = some (l.getD i [])))
theorem str_le' (l : List Str) (i : Nat) : (l.getD i []).length ≤ listSize Ty.str l := by
 rcases Nat.lt_or_ge i l.length with h | h
 ·exact str_le h
 ·have : l.getD i [] = [] := by simp [List.getD, List.getElem?_eq_none h]
  rw [this]; exact Nat.zero_le _
open Abs
def l1In.code : ACode := (q_ (r_ [s 6 mf_]) (q_ (r_ [v_ 7 0, v_ 8 1, s 9 (.bin .geq (t 7) (t 8)), v_ 10 9, g 10 true 11 (.mv (t 0)), g 10 true 12 (.mv (t 2)), g 10 true 13 (.bin .leq (t 11) (t 12)), s 14 (.and (t 10) (t 13)), v_ 6 14]) .ret))
theorem l1In.ir : IrAt Tryz.prog 50 l1In.code [0, 1, 2, 6] [.tmp 6] Tryz.f50.ntmps := ir_ Tryz.func50
abbrev l1In.Ret (args : List AV) (r : AV) (frs : Fr) : Prop := Abs.Ret true Tryz.prog 50 args r frs
def isDigit.code : ACode := (q_ (r_ [s 2 mf_]) (q_ (r_ [v_ 3 0, s 4 (.bin .leq (.const (.int .i32 48)) (t 3)), v_ 5 4, g 5 true 6 (.mv (t 0)), g 5 true 7 (.bin .leq (t 6) (.const (.int .i32 57))), s 8 (.and (t 5) (t 7)), v_ 2 8]) .ret))
theorem isDigit.ir : IrAt Tryz.prog 167 isDigit.code [0, 2] [.tmp 2] Tryz.f167.ntmps := ir_ Tryz.func167
abbrev isDigit.Ret (args : List AV) (r : AV) (frs : Fr) : Prop := Abs.Ret true Tryz.prog 167 args r frs
def isLetter.code : ACode := (q_ (r_ [s 2 mf_]) (q_ (r_ [v_ 3 0, s 4 (.bin .leq (.const (.int .i32 97)) (t 3)), v_ 5 4, g 5 true 6 (.mv (t 0)), g 5 true 7 (.bin .leq (t 6) (.const (.int .i32 122))), s 8 (.and (t 5) (t 7)), v_ 2 8]) .ret))
theorem isLetter.ir : IrAt Tryz.prog 134 isLetter.code [0, 2] [.tmp 2] Tryz.f134.ntmps := ir_ Tryz.func134
abbrev isLetter.Ret (args : List AV) (r : AV) (frs : Fr) : Prop := Abs.Ret true Tryz.prog 134 args r frs
def sIsAtom.code : ACode := (q_ (r_ [s 2 mf_]) (q_ (q_ (r_ [s 3 (.mv (i_ 0))]) (.block 0 (.loop (q_ (q_ (r_ [v_ 4 3, v_ 5 0, s 6 (.len true (t 5)), s 7 (.bin .lss (t 4) (t 6))]) (.cond (t 7) .skip (.exit 0))) (q_ (.block 1 (q_ (r_ [v_ 10 0, v_ 11 3, s 12 (.index (t 10) (t 11)), s 13 (.conv .i64 (t 12)), s 14 (.call 50 [t 13, (i_ 97), (i_ 122)]), s 15 (.not (t 14)), v_ 16 15, g 16 true 17 (.mv (t 0)), g 16 true 18 (.mv (t 3)), g 16 true 19 (.index (t 17) (t 18)), g 16 true 20 (.conv .i64 (t 19)), g 16 true 21 (.call 50 [t 20, (i_ 48), (i_ 57)]), g 16 true 22 (.not (t 21)), s 23 (.and (t 16) (t 22))]) (.cond (t 23) (q_ (r_ [s 2 mf_]) .ret) .skip))) (r_ [v_ 8 3, s 9 (.bin .add (t 8) (i_ 1)), v_ 3 9])))))) (q_ (r_ [v_ 24 0, s 25 (.len true (t 24)), s 26 (.call 50 [t 25, (i_ 1), (i_ 8)]), v_ 2 26]) .ret)))
theorem sIsAtom.ir : IrAt Tryz.prog 120 sIsAtom.code [0, 2, 3] [.tmp 2] Tryz.f120.ntmps := ir_ Tryz.func120
abbrev sIsAtom.Ret (args : List AV) (r : AV) (frs : Fr) : Prop := Abs.Ret true Tryz.prog 120 args r frs
def pIsAtom.code : ACode := (q_ (r_ [s 2 mf_]) (q_ (q_ (r_ [v_ 5 0, s 6 (.bin .eql (t 5) (.const (.string (.mk #[])))), v_ 7 6, g 7 false 8 (.mv (t 0)), g 7 false 9 (.len true (t 8)), g 7 false 10 (.bin .gtr (t 9) (i_ 8)), s 11 (.or (t 7) (t 10))]) (.cond (t 11) (q_ (r_ [s 2 mf_]) .ret) .skip)) (q_ (q_ (r_ [v_ 12 0, s 13 (.range (t 12))]) (.block 0 (.loop (q_ (r_ [s 14 (.next (t 13)), s 15 (.extract (t 14) 0)]) (q_ (.cond (t 15) .skip (.exit 0)) (.block 1 (q_ (r_ [s 16 (.extract (t 14) 2), v_ 4 16]) (q_ (r_ [v_ 17 4, s 18 (.call 134 [t 17]), s 19 (.not (t 18)), v_ 20 19, g 20 true 21 (.mv (t 4)), g 20 true 22 (.call 167 [t 21]), g 20 true 23 (.not (t 22)), s 24 (.and (t 20) (t 23))]) (.cond (t 24) (q_ (r_ [s 2 mf_]) .ret) .skip))))))))) (q_ (r_ [s 2 mt_]) .ret))))
theorem pIsAtom.ir : IrAt Tryz.prog 133 pIsAtom.code [0, 2, 4, 13, 14, 15] [.tmp 2] Tryz.f133.ntmps := ir_ Tryz.func133
abbrev pIsAtom.Ret (args : List AV) (r : AV) (frs : Fr) : Prop := Abs.Ret true Tryz.prog 133 args r frs
def sIsName.code : ACode := (q_ (r_ [s 2 mf_]) (q_ (r_ [v_ 3 0, s 4 (.call 120 [t 3]), v_ 5 4, g 5 true 6 (.mv (t 0)), g 5 true 7 (.index (t 6) (i_ 0)), g 5 true 8 (.conv .i64 (t 7)), g 5 true 9 (.call 50 [t 8, (i_ 97), (i_ 122)]), s 10 (.and (t 5) (t 9)), v_ 2 10]) .ret))
theorem sIsName.ir : IrAt Tryz.prog 81 sIsName.code [0, 2] [.tmp 2] Tryz.f81.ntmps := ir_ Tryz.func81
abbrev sIsName.Ret (args : List AV) (r : AV) (frs : Fr) : Prop := Abs.Ret true Tryz.prog 81 args r frs
def pIsName.code : ACode := (q_ (r_ [s 2 mf_]) (q_ (r_ [v_ 3 0, s 4 (.call 133 [t 3]), v_ 5 4, g 5 true 6 (.mv (t 0)), g 5 true 7 (.index (t 6) (i_ 0)), g 5 true 8 (.conv .i32 (t 7)), g 5 true 9 (.call 134 [t 8]), s 10 (.and (t 5) (t 9)), v_ 2 10]) .ret))
theorem pIsName.ir : IrAt Tryz.prog 97 pIsName.code [0, 2] [.tmp 2] Tryz.f97.ntmps := ir_ Tryz.func97
abbrev pIsName.Ret (args : List AV) (r : AV) (frs : Fr) : Prop := Abs.Ret true Tryz.prog 97 args r frs
def sIsVar.code : ACode := (q_ (r_ [s 2 mf_]) (q_ (r_ [v_ 3 0, s 4 (.len true (t 3)), s 5 (.bin .gtr (t 4) (i_ 1)), v_ 6 5, g 6 true 7 (.mv (t 0)), g 6 true 8 (.index (t 7) (i_ 0)), g 6 true 9 (.bin .eql (t 8) (.const (.int .u8 63))), s 10 (.and (t 6) (t 9)), v_ 11 10, g 11 true 12 (.mv (t 0)), g 11 true 13 (.slice true 0 (t 12) (some (i_ 1)) none), g 11 true 14 (.call 120 [t 13]), s 15 (.and (t 11) (t 14)), v_ 2 15]) .ret))
theorem sIsVar.ir : IrAt Tryz.prog 124 sIsVar.code [0, 2] [.tmp 2] Tryz.f124.ntmps := ir_ Tryz.func124
abbrev sIsVar.Ret (args : List AV) (r : AV) (frs : Fr) : Prop := Abs.Ret true Tryz.prog 124 args r frs
def pIsVar.code : ACode := (q_ (r_ [s 2 mf_]) (q_ (r_ [v_ 6 0, s 7 (.call 210 [t 6, (.const (.string (.mk #[63])))]), v_ 5 7, s 8 (.extract (t 5) 0), s 9 (.extract (t 5) 1), v_ 3 8, v_ 4 9]) (q_ (r_ [v_ 10 4, v_ 11 10, g 11 true 12 (.mv (t 3)), g 11 true 13 (.call 133 [t 12]), s 14 (.and (t 11) (t 13)), v_ 2 14]) .ret)))
theorem pIsVar.ir : IrAt Tryz.prog 201 pIsVar.code [0, 2, 3, 4] [.tmp 2] Tryz.f201.ntmps := ir_ Tryz.func201
abbrev pIsVar.Ret (args : List AV) (r : AV) (frs : Fr) : Prop := Abs.Ret true Tryz.prog 201 args r frs
def sIsTerm.code : ACode := (q_ (r_ [s 2 mf_]) (q_ (r_ [v_ 3 0, s 4 (.call 120 [t 3]), v_ 5 4, g 5 false 6 (.mv (t 0)), g 5 false 7 (.call 124 [t 6]), s 8 (.or (t 5) (t 7)), v_ 2 8]) .ret))
theorem sIsTerm.ir : IrAt Tryz.prog 123 sIsTerm.code [0, 2] [.tmp 2] Tryz.f123.ntmps := ir_ Tryz.func123
abbrev sIsTerm.Ret (args : List AV) (r : AV) (frs : Fr) : Prop := Abs.Ret true Tryz.prog 123 args r frs
def pIsTerm.code : ACode := (q_ (r_ [s 2 mf_]) (q_ (r_ [v_ 3 0, s 4 (.call 133 [t 3]), v_ 5 4, g 5 false 6 (.mv (t 0)), g 5 false 7 (.call 201 [t 6]), s 8 (.or (t 5) (t 7)), v_ 2 8]) .ret))
theorem pIsTerm.ir : IrAt Tryz.prog 197 pIsTerm.code [0, 2] [.tmp 2] Tryz.f197.ntmps := ir_ Tryz.func197
abbrev pIsTerm.Ret (args : List AV) (r : AV) (frs : Fr) : Prop := Abs.Ret true Tryz.prog 197 args r frs
def cutPrefix.code : ACode := (q_ (r_ [s 4 (.mv (.const (.string (.mk #[])))), s 5 mf_]) (q_ (r_ [v_ 6 0, v_ 7 1, s 8 (.call 227 [t 6, t 7]), s 9 (.extract (t 8) 0), s 10 (.extract (t 8) 1), v_ 4 9, v_ 5 10]) .ret))
theorem cutPrefix.ir : IrAt Tryz.prog 210 cutPrefix.code [0, 1, 4, 5] [.tmp 4, .tmp 5] Tryz.f210.ntmps := ir_ Tryz.func210
abbrev cutPrefix.Ret (args : List AV) (r : AV) (frs : Fr) : Prop := Abs.Ret true Tryz.prog 210 args r frs
def slCutPrefix.code : ACode := (q_ (r_ [s 4 (.mv (.const (.string (.mk #[])))), s 5 mf_]) (q_ (q_ (r_ [v_ 6 0, v_ 7 1, s 8 (.call 234 [t 6, t 7]), s 9 (.not (t 8))]) (.cond (t 9) (q_ (r_ [v_ 10 0, v_ 4 10, s 5 mf_]) .ret) .skip)) (q_ (r_ [v_ 11 0, v_ 12 1, s 13 (.len true (t 12)), s 14 (.slice true 0 (t 11) (some (t 13)) none), v_ 4 14, s 5 mt_]) .ret)))
theorem slCutPrefix.ir : IrAt Tryz.prog 227 slCutPrefix.code [0, 1, 4, 5] [.tmp 4, .tmp 5] Tryz.f227.ntmps := ir_ Tryz.func227
abbrev slCutPrefix.Ret (args : List AV) (r : AV) (frs : Fr) : Prop := Abs.Ret true Tryz.prog 227 args r frs
def slHasPrefix.code : ACode := (q_ (r_ [s 4 mf_]) (q_ (r_ [v_ 5 0, s 6 (.len true (t 5)), v_ 7 1, s 8 (.len true (t 7)), s 9 (.bin .geq (t 6) (t 8)), v_ 10 9, g 10 true 11 (.mv (t 0)), g 10 true 12 (.mv (t 1)), g 10 true 13 (.len true (t 12)), g 10 true 14 (.slice true 0 (t 11) none (some (t 13))), g 10 true 15 (.mv (t 1)), g 10 true 16 (.bin .eql (t 14) (t 15)), s 17 (.and (t 10) (t 16)), v_ 4 17]) .ret))
theorem slHasPrefix.ir : IrAt Tryz.prog 234 slHasPrefix.code [0, 1, 4] [.tmp 4] Tryz.f234.ntmps := ir_ Tryz.func234
abbrev slHasPrefix.Ret (args : List AV) (r : AV) (frs : Fr) : Prop := Abs.Ret true Tryz.prog 234 args r frs
def sFormatInt.code : ACode := (q_ (r_ [s 2 (.mv (.const (.string (.mk #[]))))]) (q_ (q_ (r_ [v_ 4 0, s 5 (.bin .eql (t 4) (.const (.int .i64 (-9223372036854775808))))]) (.cond (t 5) (q_ (r_ [s 2 (.mv (.const (.string (.mk #[45, 57, 50, 50, 51, 51, 55, 50, 48, 51, 54, 56, 53, 52, 55, 55, 53, 56, 48, 56]))))]) .ret) .skip)) (q_ (q_ (r_ [v_ 6 0, s 7 (.bin .lss (t 6) (i_ 0))]) (.cond (t 7) (q_ (r_ [v_ 8 0, s 9 (.neg (t 8)), s 10 (.call 193 [t 9]), s 11 (.bin .add (.const (.string (.mk #[45]))) (t 10)), v_ 2 11]) .ret) .skip)) (q_ (r_ [s 3 (.mv (.const (.string (.mk #[]))))]) (.block 0 (.loop (.block 1 (q_ (r_ [v_ 12 0, s 13 (.bin .rem (t 12) (i_ 10)), s 14 (.bin .add (i_ 48) (t 13)), s 15 (.conv .u8 (t 14)), s 16 (.bslice 5 1 true [t 15]), s 17 (.b2s (t 16)), v_ 18 3, s 19 (.bin .add (t 17) (t 18)), v_ 3 19]) (q_ (r_ [v_ 20 0, s 21 (.bin .quo (t 20) (i_ 10)), v_ 0 21]) (q_ (r_ [v_ 22 0, s 23 (.bin .eql (t 22) (i_ 0))]) (.cond (t 23) (q_ (r_ [v_ 24 3, v_ 2 24]) .ret) .skip)))))))))))
theorem sFormatInt.ir : IrAt Tryz.prog 193 sFormatInt.code [0, 2, 3] [.tmp 2] Tryz.f193.ntmps := ir_ Tryz.func193
abbrev sFormatInt.Ret (args : List AV) (r : AV) (frs : Fr) : Prop := Abs.Ret true Tryz.prog 193 args r frs
def sParseInt.code : ACode := (q_ (r_ [s 2 (.mv (i_ 0)), s 3 mf_]) (q_ (q_ (r_ [v_ 6 0, s 7 (.len true (t 6)), s 8 (.call 50 [t 7, (i_ 1), (i_ 4)]), s 9 (.not (t 8))]) (.cond (t 9) (q_ (r_ [s 2 (.mv (i_ 0)), s 3 mf_]) .ret) .skip)) (q_ (r_ [s 4 (.mv (i_ 0))]) (q_ (q_ (r_ [s 5 (.mv (i_ 0))]) (.block 0 (.loop (q_ (q_ (r_ [v_ 10 5, v_ 11 0, s 12 (.len true (t 11)), s 13 (.bin .lss (t 10) (t 12))]) (.cond (t 13) .skip (.exit 0))) (q_ (.block 1 (q_ (q_ (r_ [v_ 16 0, v_ 17 5, s 18 (.index (t 16) (t 17)), s 19 (.bin .lss (t 18) (.const (.int .u8 48))), v_ 20 19, g 20 false 21 (.mv (t 0)), g 20 false 22 (.mv (t 5)), g 20 false 23 (.index (t 21) (t 22)), g 20 false 24 (.bin .gtr (t 23) (.const (.int .u8 57))), s 25 (.or (t 20) (t 24))]) (.cond (t 25) (q_ (r_ [s 2 (.mv (i_ 0)), s 3 mf_]) .ret) .skip)) (r_ [v_ 26 4, s 27 (.bin .mul (i_ 10) (t 26)), v_ 28 0, v_ 29 5, s 30 (.index (t 28) (t 29)), s 31 (.bin .sub (t 30) (.const (.int .u8 48))), s 32 (.conv .i64 (t 31)), s 33 (.bin .add (t 27) (t 32)), v_ 4 33]))) (r_ [v_ 14 5, s 15 (.bin .add (t 14) (i_ 1)), v_ 5 15])))))) (q_ (q_ (r_ [v_ 34 4, s 35 (.call 193 [t 34]), v_ 36 0, s 37 (.bin .neq (t 35) (t 36))]) (.cond (t 37) (q_ (r_ [s 2 (.mv (i_ 0)), s 3 mf_]) .ret) .skip)) (q_ (r_ [v_ 38 4, v_ 2 38, s 3 mt_]) .ret))))))
theorem sParseInt.ir : IrAt Tryz.prog 160 sParseInt.code [0, 2, 3, 4, 5] [.tmp 2, .tmp 3] Tryz.f160.ntmps := ir_ Tryz.func160
abbrev sParseInt.Ret (args : List AV) (r : AV) (frs : Fr) : Prop := Abs.Ret true Tryz.prog 160 args r frs
def pParseInt.code : ACode := (q_ (r_ [s 2 (.mv (i_ 0)), s 3 mf_]) (q_ (q_ (r_ [v_ 7 0, s 8 (.bin .eql (t 7) (.const (.string (.mk #[])))), v_ 9 8, g 9 false 10 (.mv (t 0)), g 9 false 11 (.len true (t 10)), g 9 false 12 (.bin .gtr (t 11) (i_ 1)), g 9 false 13 (.mv (t 12)), g 13 true 14 (.mv (t 0)), g 13 true 15 (.index (t 14) (i_ 0)), g 13 true 16 (.bin .eql (t 15) (.const (.int .u8 48))), g 9 false 17 (.and (t 13) (t 16)), s 18 (.or (t 9) (t 17))]) (.cond (t 18) (q_ (r_ [s 2 (.mv (i_ 0)), s 3 mf_]) .ret) .skip)) (q_ (r_ [s 4 (.mv (i_ 0))]) (q_ (q_ (r_ [v_ 19 0, s 20 (.range (t 19))]) (.block 0 (.loop (q_ (r_ [s 21 (.next (t 20)), s 22 (.extract (t 21) 0)]) (q_ (.cond (t 22) .skip (.exit 0)) (.block 1 (q_ (r_ [s 23 (.extract (t 21) 2), v_ 6 23]) (q_ (q_ (r_ [v_ 24 6, s 25 (.call 167 [t 24]), s 26 (.not (t 25))]) (.cond (t 26) (q_ (r_ [s 2 (.mv (i_ 0)), s 3 mf_]) .ret) .skip)) (q_ (r_ [v_ 27 4, s 28 (.bin .mul (i_ 10) (t 27)), v_ 29 6, s 30 (.bin .sub (t 29) (.const (.int .i32 48))), s 31 (.conv .i64 (t 30)), s 32 (.bin .add (t 28) (t 31)), v_ 4 32]) (q_ (r_ [v_ 33 4, s 34 (.bin .gtr (t 33) (i_ 9999))]) (.cond (t 34) (q_ (r_ [s 2 (.mv (i_ 0)), s 3 mf_]) .ret) .skip))))))))))) (q_ (r_ [v_ 35 4, v_ 2 35, s 3 mt_]) .ret)))))
theorem pParseInt.ir : IrAt Tryz.prog 183 pParseInt.code [0, 2, 3, 4, 6, 20, 21, 22] [.tmp 2, .tmp 3] Tryz.f183.ntmps := ir_ Tryz.func183
abbrev pParseInt.Ret (args : List AV) (r : AV) (frs : Fr) : Prop := Abs.Ret true Tryz.prog 183 args r frs
def sIsNumber.code : ACode := (q_ (r_ [s 2 mf_]) (q_ (r_ [v_ 6 0, s 7 (.call 160 [t 6]), v_ 5 7, s 8 (.extract (t 5) 0), s 9 (.extract (t 5) 1), v_ 3 8, v_ 4 9]) (q_ (r_ [v_ 10 4, v_ 2 10]) .ret)))
theorem sIsNumber.ir : IrAt Tryz.prog 195 sIsNumber.code [0, 2, 4] [.tmp 2] Tryz.f195.ntmps := ir_ Tryz.func195
abbrev sIsNumber.Ret (args : List AV) (r : AV) (frs : Fr) : Prop := Abs.Ret true Tryz.prog 195 args r frs
def sCompareAtoms.code : ACode := (q_ (r_ [s 4 (.mv (i_ 0))]) (q_ (r_ [v_ 10 0, s 11 (.call 160 [t 10]), v_ 9 11, s 12 (.extract (t 9) 0), s 13 (.extract (t 9) 1), v_ 5 12, v_ 6 13]) (q_ (r_ [v_ 15 1, s 16 (.call 160 [t 15]), v_ 14 16, s 17 (.extract (t 14) 0), s 18 (.extract (t 14) 1), v_ 7 17, v_ 8 18]) (q_ (.block 0 (q_ (q_ (r_ [v_ 20 6, v_ 21 20, g 21 true 22 (.mv (t 8)), s 23 (.and (t 21) (t 22)), v_ 24 23, g 24 true 25 (.mv (t 5)), g 24 true 26 (.mv (t 7)), g 24 true 27 (.bin .lss (t 25) (t 26)), s 28 (.and (t 24) (t 27)), v_ 19 28]) (.cond (t 19) .skip (r_ [v_ 29 6, v_ 30 29, g 30 true 31 (.mv (t 8)), g 30 true 32 (.not (t 31)), s 33 (.and (t 30) (t 32)), v_ 19 33]))) (.cond (t 19) (q_ (r_ [s 4 (.mv (.const (.int .i64 (-1))))]) .ret) (q_ (q_ (r_ [v_ 35 6, v_ 36 35, g 36 true 37 (.mv (t 8)), s 38 (.and (t 36) (t 37)), v_ 39 38, g 39 true 40 (.mv (t 5)), g 39 true 41 (.mv (t 7)), g 39 true 42 (.bin .gtr (t 40) (t 41)), s 43 (.and (t 39) (t 42)), v_ 34 43]) (.cond (t 34) .skip (r_ [v_ 44 8, v_ 45 44, g 45 true 46 (.mv (t 6)), g 45 true 47 (.not (t 46)), s 48 (.and (t 45) (t 47)), v_ 34 48]))) (.cond (t 34) (q_ (r_ [s 4 (.mv (i_ 1))]) .ret) (q_ (r_ [v_ 50 6, v_ 49 50]) (.cond (t 49) (q_ (r_ [s 4 (.mv (i_ 0))]) .ret) .skip))))))) (q_ (r_ [v_ 51 0, v_ 52 1, s 53 (.call 125 [t 51, t 52]), v_ 4 53]) .ret)))))
theorem sCompareAtoms.ir : IrAt Tryz.prog 126 sCompareAtoms.code [0, 1, 4, 5, 6, 7, 8, 19, 34] [.tmp 4] Tryz.f126.ntmps := ir_ Tryz.func126
abbrev sCompareAtoms.Ret (args : List AV) (r : AV) (frs : Fr) : Prop := Abs.Ret true Tryz.prog 126 args r frs
def pCompareAtoms.code : ACode := (q_ (r_ [s 4 (.mv (i_ 0))]) (q_ (r_ [v_ 10 0, s 11 (.call 183 [t 10]), v_ 9 11, s 12 (.extract (t 9) 0), s 13 (.extract (t 9) 1), v_ 5 12, v_ 6 13]) (q_ (r_ [v_ 15 1, s 16 (.call 183 [t 15]), v_ 14 16, s 17 (.extract (t 14) 0), s 18 (.extract (t 14) 1), v_ 7 17, v_ 8 18]) (q_ (.block 0 (q_ (r_ [v_ 20 6, v_ 21 20, g 21 true 22 (.mv (t 8)), s 23 (.and (t 21) (t 22)), v_ 19 23]) (.cond (t 19) (q_ (r_ [v_ 24 5, v_ 25 7, s 26 (.call 184 [t 24, t 25]), v_ 4 26]) .ret) (q_ (r_ [v_ 28 6, v_ 27 28]) (.cond (t 27) (q_ (r_ [s 4 (.mv (.const (.int .i64 (-1))))]) .ret) (q_ (r_ [v_ 30 8, v_ 29 30]) (.cond (t 29) (q_ (r_ [s 4 (.mv (i_ 1))]) .ret) .skip))))))) (q_ (r_ [v_ 31 0, v_ 32 1, s 33 (.call 147 [t 31, t 32]), v_ 4 33]) .ret)))))
theorem pCompareAtoms.ir : IrAt Tryz.prog 149 pCompareAtoms.code [0, 1, 4, 5, 6, 7, 8] [.tmp 4] Tryz.f149.ntmps := ir_ Tryz.func149
abbrev pCompareAtoms.Ret (args : List AV) (r : AV) (frs : Fr) : Prop := Abs.Ret true Tryz.prog 149 args r frs
def sCmp.code : ACode := (q_ (r_ [s 4 (.mv (i_ 0))]) (q_ (.block 0 (q_ (r_ [v_ 6 0, v_ 7 1, s 8 (.bin .lss (t 6) (t 7)), v_ 5 8]) (.cond (t 5) (q_ (r_ [s 4 (.mv (.const (.int .i64 (-1))))]) .ret) (q_ (r_ [v_ 10 0, v_ 11 1, s 12 (.bin .gtr (t 10) (t 11)), v_ 9 12]) (.cond (t 9) (q_ (r_ [s 4 (.mv (i_ 1))]) .ret) .skip))))) (q_ (r_ [s 4 (.mv (i_ 0))]) .ret)))
theorem sCmp.ir : IrAt Tryz.prog 125 sCmp.code [0, 1, 4] [.tmp 4] Tryz.f125.ntmps := ir_ Tryz.func125
abbrev sCmp.Ret (args : List AV) (r : AV) (frs : Fr) : Prop := Abs.Ret true Tryz.prog 125 args r frs
def cmpInt.code : ACode := (q_ (r_ [s 4 (.mv (i_ 0))]) (q_ (r_ [v_ 7 0, s 8 (.call 205 [t 7]), v_ 5 8]) (q_ (r_ [v_ 9 1, s 10 (.call 205 [t 9]), v_ 6 10]) (q_ (q_ (r_ [v_ 11 5]) (.cond (t 11) (q_ (q_ (r_ [v_ 12 6]) (.cond (t 12) (q_ (r_ [s 4 (.mv (i_ 0))]) .ret) .skip)) (q_ (r_ [s 4 (.mv (.const (.int .i64 (-1))))]) .ret)) .skip)) (q_ (q_ (r_ [v_ 13 6]) (.cond (t 13) (q_ (r_ [s 4 (.mv (i_ 1))]) .ret) .skip)) (q_ (q_ (r_ [v_ 14 0, v_ 15 1, s 16 (.bin .lss (t 14) (t 15))]) (.cond (t 16) (q_ (r_ [s 4 (.mv (.const (.int .i64 (-1))))]) .ret) .skip)) (q_ (q_ (r_ [v_ 17 0, v_ 18 1, s 19 (.bin .gtr (t 17) (t 18))]) (.cond (t 19) (q_ (r_ [s 4 (.mv (i_ 1))]) .ret) .skip)) (q_ (r_ [s 4 (.mv (i_ 0))]) .ret))))))))
theorem cmpInt.ir : IrAt Tryz.prog 184 cmpInt.code [0, 1, 4, 5, 6] [.tmp 4] Tryz.f184.ntmps := ir_ Tryz.func184
abbrev cmpInt.Ret (args : List AV) (r : AV) (frs : Fr) : Prop := Abs.Ret true Tryz.prog 184 args r frs
def cmpString.code : ACode := (q_ (r_ [s 4 (.mv (i_ 0))]) (q_ (r_ [v_ 7 0, s 8 (.call 182 [t 7]), v_ 5 8]) (q_ (r_ [v_ 9 1, s 10 (.call 182 [t 9]), v_ 6 10]) (q_ (q_ (r_ [v_ 11 5]) (.cond (t 11) (q_ (q_ (r_ [v_ 12 6]) (.cond (t 12) (q_ (r_ [s 4 (.mv (i_ 0))]) .ret) .skip)) (q_ (r_ [s 4 (.mv (.const (.int .i64 (-1))))]) .ret)) .skip)) (q_ (q_ (r_ [v_ 13 6]) (.cond (t 13) (q_ (r_ [s 4 (.mv (i_ 1))]) .ret) .skip)) (q_ (q_ (r_ [v_ 14 0, v_ 15 1, s 16 (.bin .lss (t 14) (t 15))]) (.cond (t 16) (q_ (r_ [s 4 (.mv (.const (.int .i64 (-1))))]) .ret) .skip)) (q_ (q_ (r_ [v_ 17 0, v_ 18 1, s 19 (.bin .gtr (t 17) (t 18))]) (.cond (t 19) (q_ (r_ [s 4 (.mv (i_ 1))]) .ret) .skip)) (q_ (r_ [s 4 (.mv (i_ 0))]) .ret))))))))
theorem cmpString.ir : IrAt Tryz.prog 147 cmpString.code [0, 1, 4, 5, 6] [.tmp 4] Tryz.f147.ntmps := ir_ Tryz.func147
abbrev cmpString.Ret (args : List AV) (r : AV) (frs : Fr) : Prop := Abs.Ret true Tryz.prog 147 args r frs
def isNaNInt.code : ACode := (q_ (r_ [s 2 mf_]) (q_ (r_ [v_ 3 0, v_ 4 0, s 5 (.bin .neq (t 3) (t 4)), v_ 2 5]) .ret))
theorem isNaNInt.ir : IrAt Tryz.prog 205 isNaNInt.code [0, 2] [.tmp 2] Tryz.f205.ntmps := ir_ Tryz.func205
abbrev isNaNInt.Ret (args : List AV) (r : AV) (frs : Fr) : Prop := Abs.Ret true Tryz.prog 205 args r frs
def isNaNString.code : ACode := (q_ (r_ [s 2 mf_]) (q_ (r_ [v_ 3 0, v_ 4 0, s 5 (.bin .neq (t 3) (t 4)), v_ 2 5]) .ret))
theorem isNaNString.ir : IrAt Tryz.prog 182 isNaNString.code [0, 2] [.tmp 2] Tryz.f182.ntmps := ir_ Tryz.func182
abbrev isNaNString.Ret (args : List AV) (r : AV) (frs : Fr) : Prop := Abs.Ret true Tryz.prog 182 args r frs
def sPut.code : ACode := (q_ (r_ [s 4 (.mv (.const (.slice none 0 0)))]) (q_ (r_ [s 8 (.bslice 9 1 true []), v_ 5 8]) (q_ (r_ [s 6 mf_]) (q_ (q_ (r_ [s 7 (.mv (i_ 0))]) (.block 0 (.loop (q_ (q_ (r_ [v_ 9 7, v_ 10 0, s 11 (.len false (t 10)), s 12 (.bin .lss (t 9) (t 11))]) (.cond (t 12) .skip (.exit 0))) (q_ (.block 1 (q_ (q_ (r_ [v_ 15 6, s 16 (.not (t 15)), v_ 17 16, g 17 true 18 (.mv (t 0)), g 17 true 19 (.mv (t 7)), g 17 true 20 (.iadr 1 (t 18) (t 19)), g 17 true 21 (l_ 20), g 17 true 22 (.mv (t 1)), g 17 true 23 (.bin .geq (t 21) (t 22)), s 24 (.and (t 17) (t 23))]) (.cond (t 24) (q_ (r_ [s 6 mt_]) (q_ (r_ [v_ 25 0, v_ 26 7, s 27 (.iadr 1 (t 25) (t 26)), s 28 (l_ 27), v_ 29 1, s 30 (.bin .neq (t 28) (t 29))]) (.cond (t 30) (r_ [v_ 31 5, v_ 32 1, s 33 (.bslice 9 1 false [t 32]), s 34 (.append 9 1 16 (t 31) (t 33)), v_ 5 34]) .skip))) .skip)) (r_ [v_ 35 5, v_ 36 0, v_ 37 7, s 38 (.iadr 1 (t 36) (t 37)), s 39 (l_ 38), s 40 (.bslice 9 1 false [t 39]), s 41 (.append 9 1 16 (t 35) (t 40)), v_ 5 41]))) (r_ [v_ 13 7, s 14 (.bin .add (t 13) (i_ 1)), v_ 7 14])))))) (q_ (q_ (r_ [v_ 42 6, s 43 (.not (t 42))]) (.cond (t 43) (r_ [v_ 44 5, v_ 45 1, s 46 (.bslice 9 1 false [t 45]), s 47 (.append 9 1 16 (t 44) (t 46)), v_ 5 47]) .skip)) (q_ (r_ [v_ 48 5, v_ 4 48]) .ret))))))
theorem sPut.ir : IrAt Tryz.prog 121 sPut.code [0, 1, 4, 5, 6, 7] [.tmp 4] Tryz.f121.ntmps := ir_ Tryz.func121
abbrev sPut.Ret (args : List AV) (r : AV) (frs : Fr) : Prop := Abs.Ret true Tryz.prog 121 args r frs
def pSortedTexts.code : ACode := (q_ (r_ [s 2 (.mv (.const (.slice none 0 0)))]) (q_ (r_ [v_ 4 0, s 5 (.call 179 [t 4]), v_ 3 5]) (q_ (r_ [v_ 6 3, s 7 (.call 180 [t 6])]) (q_ (r_ [v_ 8 3, s 9 (.call 181 [t 8]), v_ 2 9]) .ret))))
theorem pSortedTexts.ir : IrAt Tryz.prog 145 pSortedTexts.code [0, 2, 3] [.tmp 2] Tryz.f145.ntmps := ir_ Tryz.func145
abbrev pSortedTexts.Ret (args : List AV) (r : AV) (frs : Fr) : Prop := Abs.Ret true Tryz.prog 145 args r frs
def slClone.code : ACode := (q_ (r_ [s 2 (.mv (.const (.slice none 0 0)))]) (q_ (q_ (r_ [v_ 3 0, s 4 (.nilq false (t 3))]) (.cond (t 4) (q_ (r_ [s 2 (.mv (.const (.slice none 0 0)))]) .ret) .skip)) (q_ (r_ [s 5 (.bslice 9 1 true []), v_ 6 0, s 7 (.append 9 1 16 (t 5) (t 6)), v_ 2 7]) .ret)))
theorem slClone.ir : IrAt Tryz.prog 179 slClone.code [0, 2] [.tmp 2] Tryz.f179.ntmps := ir_ Tryz.func179
abbrev slClone.Own (args : List AV) (x : Tr) : Prop := Abs.Own true Tryz.prog 179 args x
abbrev slClone.Ret (args : List AV) (r : AV) (frs : Fr) : Prop := Abs.Ret true Tryz.prog 179 args r frs
abbrev slSort.Ctx (b0 : List ABox) (args : List AV) (Φ : AV → List ABox → Prop) : Prop := Abs.Ctx true Tryz.prog 180 b0 args Φ
abbrev slCompact.Ctx (b0 : List ABox) (args : List AV) (Φ : AV → List ABox → Prop) : Prop := Abs.Ctx true Tryz.prog 181 b0 args Φ
def sTexts.code : ACode := (q_ (r_ [s 2 (.mv (.const (.slice none 0 0)))]) (q_ (r_ [s 3 (.bslice 9 1 true []), v_ 4 0, s 5 (.append 9 1 16 (t 3) (t 4)), v_ 2 5]) .ret))
theorem sTexts.ir : IrAt Tryz.prog 166 sTexts.code [0, 2] [.tmp 2] Tryz.f166.ntmps := ir_ Tryz.func166
abbrev sTexts.Ret (args : List AV) (r : AV) (frs : Fr) : Prop := Abs.Ret true Tryz.prog 166 args r frs
def slEqual.code : ACode := (q_ (r_ [s 4 mf_]) (q_ (q_ (r_ [v_ 6 0, s 7 (.len false (t 6)), v_ 8 1, s 9 (.len false (t 8)), s 10 (.bin .neq (t 7) (t 9))]) (.cond (t 10) (q_ (r_ [s 4 mf_]) .ret) .skip)) (q_ (q_ (r_ [v_ 11 0, s 12 (.len false (t 11)), s 13 (.mv (i_ 0))]) (.block 0 (.loop (q_ (r_ [s 14 (.bin .lss (t 13) (t 12))]) (q_ (.cond (t 14) .skip (.exit 0)) (q_ (.block 1 (q_ (r_ [v_ 15 13, v_ 5 15]) (q_ (.region true [v_ 16 0, v_ 17 5, s 18 (.iadr 1 (t 16) (t 17)), s 19 (l_ 18), v_ 20 1, v_ 21 5, s 22 (.iadr 1 (t 20) (t 21)), s 23 (l_ 22), s 24 (.bin .neq (t 19) (t 23))]) (.cond (t 24) (q_ (r_ [s 4 mf_]) .ret) .skip)))) (r_ [s 25 (.bin .add (t 13) (i_ 1)), v_ 13 25]))))))) (q_ (r_ [s 4 mt_]) .ret))))
theorem slEqual.ir : IrAt Tryz.prog 192 slEqual.code [0, 1, 4, 5, 12, 13, 14] [.tmp 4] Tryz.f192.ntmps := ir_ Tryz.func192
abbrev slEqual.Ret (args : List AV) (r : AV) (frs : Fr) : Prop := Abs.Ret true Tryz.prog 192 args r frs
def slCompareFunc.code : ACode := (q_ (r_ [s 6 (.mv (i_ 0))]) (q_ (q_ (r_ [v_ 11 0, s 12 (.len false (t 11)), s 13 (.mv (i_ 0))]) (.block 0 (.loop (q_ (r_ [s 14 (.bin .lss (t 13) (t 12))]) (q_ (.cond (t 14) .skip (.exit 0)) (q_ (.block 1 (q_ (r_ [v_ 15 13, s 16 (.iadr 1 (t 11) (t 13)), s 17 (l_ 16), v_ 7 15, v_ 8 17]) (q_ (q_ (r_ [v_ 18 7, v_ 19 1, s 20 (.len false (t 19)), s 21 (.bin .geq (t 18) (t 20))]) (.cond (t 21) (q_ (r_ [s 6 (.mv (i_ 1))]) .ret) .skip)) (q_ (r_ [v_ 22 1, v_ 23 7, s 24 (.iadr 1 (t 22) (t 23)), s 25 (l_ 24), v_ 9 25]) (q_ (r_ [v_ 26 2, v_ 27 8, v_ 28 9, s 29 (.callv (t 26) [t 27, t 28]), v_ 10 29]) (q_ (r_ [v_ 30 10, s 31 (.bin .neq (t 30) (i_ 0))]) (.cond (t 31) (q_ (r_ [v_ 32 10, v_ 6 32]) .ret) .skip))))))) (r_ [s 33 (.bin .add (t 13) (i_ 1)), v_ 13 33]))))))) (q_ (q_ (r_ [v_ 34 0, s 35 (.len false (t 34)), v_ 36 1, s 37 (.len false (t 36)), s 38 (.bin .lss (t 35) (t 37))]) (.cond (t 38) (q_ (r_ [s 6 (.mv (.const (.int .i64 (-1))))]) .ret) .skip)) (q_ (r_ [s 6 (.mv (i_ 0))]) .ret))))
theorem slCompareFunc.ir : IrAt Tryz.prog 148 slCompareFunc.code [0, 1, 2, 6, 7, 8, 9, 10, 11, 12, 13, 14] [.tmp 6] Tryz.f148.ntmps := ir_ Tryz.func148
abbrev slCompareFunc.Ret (args : List AV) (r : AV) (frs : Fr) : Prop := Abs.Ret true Tryz.prog 148 args r frs
open Abs
theorem l1In.ret (x a b : Int) : l1In.Ret [.val (.int .i64 x), .val (.int .i64 a), .val (.int .i64 b)] (.val (.bool (decide (a ≤ x) && decide (x ≤ b)))) [] := by
 refine l1In.ir.of rfl ?_
 repeat' first
  | (conv => whnf
     first | refine Need.mk (fun h => h) ?_ | refine Need.mk rfl ?_ | refine FinVal.keep ?_ | refine Final.mk rfl rfl)
def letter (c : Int) : Bool := decide (97 ≤ c) && decide (c ≤ 122)
def digit (c : Int) : Bool := decide (48 ≤ c) && decide (c ≤ 57)
theorem isLetter.ret (x : Int) : isLetter.Ret [.val (.int .i32 x)] (.val (.bool (letter x))) [] := by
 refine isLetter.ir.of rfl ?_; unfold letter
 repeat' first
  | (conv => whnf
     first | refine Need.mk (fun h => h) ?_ | refine Need.mk rfl ?_ | refine FinVal.keep ?_ | refine Final.mk rfl rfl)
theorem isDigit.ret (x : Int) : isDigit.Ret [.val (.int .i32 x)] (.val (.bool (digit x))) [] := by
 refine isDigit.ir.of rfl ?_; unfold digit
 repeat' first
  | (conv => whnf
     first | refine Need.mk (fun h => h) ?_ | refine Need.mk rfl ?_ | refine FinVal.keep ?_ | refine Final.mk rfl rfl)
def alnum (c : UInt8) : Bool := letter c.toNat || digit c.toNat
def atomF (s : Str) : Bool := s.all alnum && (decide (1 ≤ (s.length : Int)) && decide ((s.length : Int) ≤ 8))
theorem wrap64_byte (c : UInt8) : IntKind.i64.wrap (c.toNat : Int) = c.toNat := wrap64 (by omega) (by have := c.toNat_lt; omega)
theorem wrap32_byte (c : UInt8) : IntKind.i32.wrap (c.toNat : Int) = c.toNat := by have h := c.toNat_lt; exact Go.IntWalk.i32_in _ ⟨by omega, by omega⟩
theorem atomF_no {x : Str} {i : Nat} (hi : i < x.length) (h : alnum (x.getD i 0) = false) : atomF x = false := by
 have : x.all alnum = false := by
  rw [List.all_eq_false]
  refine ⟨x.getD i 0, ?_, by rw [h]; simp⟩
  simp [List.getD, hi]
 simp [atomF, this]
theorem all_succ {x : Str} {i : Nat} (hi : i < x.length) (h : (x.take i).all alnum = true) (hc : alnum (x.getD i 0) = true) : (x.take (i + 1)).all alnum = true := by
 rw [take_succ' 0 hi, List.all_append, h]; simpa using hc
theorem all_end {x : Str} {i : Nat} (hi : x.length ≤ i) (h : (x.take i).all alnum = true) : x.all alnum = true := by
 rwa [List.take_of_length_le hi] at h
theorem nor {p q : Bool} (h : (!p && !q) = true) : (p || q) = false := by cases p <;> cases q <;> simp_all
theorem nor' {p q : Bool} (h : (!p && !q) = false) : (p || q) = true := by cases p <;> cases q <;> simp_all
theorem dec_cases (x : Str) (i : Nat) (hi : i < x.length) :
 ((x.getD i 0).toNat < 128 ∧ decodeS x i = ((x.getD i 0).toNat, 1)) ∨ (128 ≤ (x.getD i 0).toNat ∧ 128 ≤ (decodeS x i).1) := by
 have hs : i < (⟨x.toArray⟩ : ByteArray).size := hi
 have he : (⟨x.toArray⟩ : ByteArray)[i]'hs = x.getD i 0 := by
  have : (⟨x.toArray⟩ : ByteArray)[i]'hs = x[i] := rfl
  rw [this]; simp [List.getD, hi]
 rcases Nat.lt_or_ge (x.getD i 0).toNat 128 with h | h
 ·exact .inl ⟨h, by unfold decodeS; rw [decode_ascii _ _ hs (by rw [he]; exact h), he]⟩
 ·exact .inr ⟨h, (decode_high _ _ hs (by rw [he]; exact h)).1⟩
theorem sIsAtom.ret (x : Str) (hx : x.length ≤ 1048576) : sIsAtom.Ret [.str x] (.val (.bool (atomF x))) [] := by
 refine sIsAtom.ir.of rfl ?_
 skip
 refine ALoop.mk Nat (fun i => ⟨[(0, .str x), (3, .val (.int .i64 i))], [], []⟩) (fun i => i ≤ x.length ∧ (x.take i).all alnum = true) (fun i => x.length - i) ⟨0, ⟨Nat.zero_le _, rfl⟩, ?_⟩ (fun i hi => ?_)
 ·repeat' first
   | exact trivial | refine wl_ ?_ ?_ ?_ ?_ | refine And.intro ?_ ?_ | with_reducible rfl | exact ble_ | refine AV.int_congr ?_ | refine AV.str_congr ?_ | (apply rfl)
 repeat' first
  | (conv => whnf
     first | refine Need.mk (fun h => h) ?_ | refine Need.mk rfl ?_ | refine Need.fin ?_ | refine Fork.dec (fun _ => ?_) (fun _ => ?_) | refine Fork.mk (fun _ => ?_) (fun _ => ?_) | refine Round.mk ?_ | refine FinVal.keep ?_ | refine Final.mk ?_ rfl | refine ACall.scalA _ _ (l1In.ret _ _ _) rfl ?_ | refine AGCall.mkA _ _ (fun hg => l1In.ret _ _ _) rfl ?_)
  | refine AV.bool_congr ?_
 ·rename_i h0 h1
  rw [atomF_no (i := i) (by omega) (by simp only [wrap64_byte, Int.toNat_natCast] at h1; exact nor h1)]
 ·rename_i h0 h1
  refine ⟨i + 1, ⟨by omega, all_succ (by omega) hi.2 ?_⟩, ?_, by omega⟩
  ·simp only [wrap64_byte, Int.toNat_natCast] at h1; exact nor' h1
  ·repeat' first
    | exact trivial | refine wl_ ?_ ?_ ?_ ?_ | refine And.intro ?_ ?_ | with_reducible rfl | exact ble_ | refine AV.int_congr ?_ | refine AV.str_congr ?_ | (apply rfl)
   rw [wrap64 (by omega) (by omega)]; rfl
 ·simp [atomF, all_end (by omega) hi.2]
theorem pIsAtom.ret (x : Str) (hx : x.length ≤ 1048576) : pIsAtom.Ret [.str x] (.val (.bool (atomF x))) [] := by
 refine pIsAtom.ir.of rfl ?_
 repeat' first
  | (conv => whnf
     first | refine Need.mk (fun h => h) ?_ | refine Need.mk rfl ?_ | refine Fork.mk (fun _ => ?_) (fun _ => ?_) | refine FinVal.keep ?_ | refine Final.mk ?_ rfl)
  | refine AV.bool_congr ?_
 all_goals try refine ALoop.mk Nat (fun i => ⟨[(0, .str x), (13, .bptr 0 0)], [.iter x i], []⟩) (fun i => i ≤ x.length ∧ (x.take i).all alnum = true) (fun i => x.length - i) ⟨0, ⟨Nat.zero_le _, rfl⟩, ?_⟩ (fun i hi => ?_)
 rotate_left
 ·repeat' first
   | exact trivial | refine wl_ ?_ ?_ ?_ ?_ | refine And.intro ?_ ?_ | with_reducible rfl | exact ble_ | refine AV.str_congr ?_ | (apply rfl)
 repeat' first
  | contradiction
  | (conv => whnf
     first | refine Need.mk (fun h => h) ?_ | refine Fork.dec (fun _ => ?_) (fun _ => ?_) | refine Fork.mk (fun _ => ?_) (fun _ => ?_) | refine Round.mk ?_ | refine FinVal.keep ?_ | refine Final.mk ?_ rfl | refine ACall.scalA _ _ (isLetter.ret _) rfl ?_ | refine AGCall.mkA _ _ (fun hg => isDigit.ret _) rfl ?_)
  | refine AV.bool_congr ?_
 ·rename_i h0 _ h1
  refine (atomF_no h0 ?_).symm
  rcases dec_cases x i h0 with ⟨_, h⟩ | ⟨h, _⟩
  ·rw [h] at h1; exact nor h1
  ·rw [List.getD_eq_getElem?_getD] at h; simp [alnum, letter, digit]; omega
 ·rename_i h0 _ h1
  rcases dec_cases x i h0 with ⟨_, h⟩ | ⟨_, h⟩
  ·rw [h] at h1
   refine ⟨i + 1, ⟨h0, all_succ h0 hi.2 (nor' h1)⟩, ?_, by omega⟩
   repeat' first
    | exact trivial | refine wl_ ?_ ?_ ?_ ?_ | refine And.intro ?_ ?_ | with_reducible rfl | exact ble_ | refine AV.str_congr ?_ | (apply rfl)
   simp [h]
  ·exfalso
   revert h1; simp [letter, digit]; omega
 ·rename_i h1 h2 _
  simp only [Bool.or_eq_false_iff, decide_eq_false_iff_not] at h1
  have h3 : x ≠ [] := by simpa using h1.1
  have h4 : 0 < x.length := List.length_pos_iff.2 h3
  have h5 : (1 : Int) ≤ x.length := by omega
  have h6 : (x.length : Int) ≤ 8 := by omega
  simp [atomF, all_end (by omega) hi.2, h5, h6]
 ·rename_i h1
  rcases Bool.or_eq_true_iff.1 h1 with h | h
  ·have h3 : x = [] := by simpa using h
   subst h3; rfl
  ·have : ¬ ((x.length : Int) ≤ 8) := by have := of_decide_eq_true h; omega
   simp [atomF, this]
open Abs
def fmt (n : Nat) : Str := if h : n < 10 then [UInt8.ofNat (48 + n)] else fmt (n / 10) ++ [UInt8.ofNat (48 + n % 10)]
termination_by n
decreasing_by omega
def dval (n : Nat) (c : UInt8) : Nat := 10 * n + (c.toNat - 48)
def valA (a : Nat) (s : Str) : Nat := s.foldl dval a
def dig (c : UInt8) : Bool := digit c.toNat
theorem dig_range {c : UInt8} (h : dig c = true) : 48 ≤ c.toNat ∧ c.toNat ≤ 57 := by
 simp [dig, digit] at h; omega
theorem fmt_small {n : Nat} (h : n < 10) : fmt n = [UInt8.ofNat (48 + n)] := by rw [fmt, dif_pos h]
theorem fmt_big {n : Nat} (h : 10 ≤ n) : fmt n = fmt (n / 10) ++ [UInt8.ofNat (48 + n % 10)] := by rw [fmt, dif_neg (by omega)]
theorem ofNat_dig {c : UInt8} (h : dig c = true) : UInt8.ofNat (48 + (c.toNat - 48)) = c := by
 have := dig_range h
 have e : 48 + (c.toNat - 48) = c.toNat := by omega
 rw [e]; exact UInt8.ofNat_toNat
theorem valA_lt {s : Str} (h : s.all dig = true) (a : Nat) : valA a s < (a + 1) * 10 ^ s.length := by
 induction s generalizing a with
 | nil => simp [valA]
 | cons c s ih =>
  simp only [List.all_cons, Bool.and_eq_true] at h
  have h1 := ih h.2 (dval a c)
  have h2 := dig_range h.1
  have h3 : (dval a c + 1) ≤ (a + 1) * 10 := by unfold dval; omega
  have h4 := Nat.mul_le_mul_right (10 ^ s.length) h3
  have h5 : (a + 1) * 10 * 10 ^ s.length = (a + 1) * 10 ^ (c :: s).length := by rw [List.length_cons, Nat.pow_succ, Nat.mul_assoc, Nat.mul_comm 10]
  show valA (dval a c) s < _
  omega
theorem valA_ge (s : Str) (a : Nat) : a * 10 ^ s.length ≤ valA a s := by
 induction s generalizing a with
 | nil => simp [valA]
 | cons c s ih =>
  have h1 := ih (dval a c)
  have h3 : a * 10 ≤ dval a c := by unfold dval; omega
  have h4 := Nat.mul_le_mul_right (10 ^ s.length) h3
  have h5 : a * 10 * 10 ^ s.length = a * 10 ^ (c :: s).length := by rw [List.length_cons, Nat.pow_succ, Nat.mul_assoc, Nat.mul_comm 10]
  show _ ≤ valA (dval a c) s
  omega
theorem fmt_valA {s : Str} (h : s.all dig = true) (a : Nat) (ha : 0 < a) : fmt (valA a s) = fmt a ++ s := by
 induction s generalizing a with
 | nil => simp [valA]
 | cons c s ih =>
  simp only [List.all_cons, Bool.and_eq_true] at h
  have h2 := dig_range h.1
  show fmt (valA (dval a c) s) = _
  rw [ih h.2 (dval a c) (by unfold dval; omega)]
  have h3 : dval a c / 10 = a := by unfold dval; omega
  have h4 : dval a c % 10 = c.toNat - 48 := by unfold dval; omega
  rw [fmt_big (n := dval a c) (by unfold dval; omega), h3, h4, ofNat_dig h.1]
  simp
theorem fmt_head (n : Nat) (h : 0 < n) : ∃ c r, fmt n = c :: r ∧ c ≠ 48 := by
 induction n using Nat.strongRecOn with
 | _ n ih =>
  rcases Nat.lt_or_ge n 10 with h1 | h1
  ·refine ⟨_, [], fmt_small h1, fun e => ?_⟩
   have := congrArg UInt8.toNat e
   simp at this
   omega
  ·obtain ⟨c, r, e, hc⟩ := ih (n / 10) (by omega) (by omega)
   exact ⟨c, r ++ [_], by rw [fmt_big h1, e]; rfl, hc⟩
def isNum (s : Str) : Bool := match s with
 | [] => false
 | [c] => dig c
 | c :: d :: s => (c :: d :: s).all dig && c != 48
theorem fmt_of_isNum {s : Str} (h : isNum s = true) : fmt (valA 0 s) = s := by
 match s, h with
 | [c], h =>
  have h2 := dig_range h
  have e : valA 0 [c] = c.toNat - 48 := by simp [valA, dval]
  rw [e, fmt_small (by omega), ofNat_dig h]
 | c :: d :: s, h =>
  simp only [isNum, Bool.and_eq_true, bne_iff_ne, ne_eq] at h
  have hc : dig c = true := by have := h.1; simp only [List.all_cons, Bool.and_eq_true] at this; exact this.1
  have hs : (d :: s).all dig = true := by have := h.1; rw [List.all_cons, Bool.and_eq_true] at this; exact this.2
  have h2 := dig_range hc
  have h3 : c.toNat ≠ 48 := fun e => h.2 (by rw [← UInt8.ofNat_toNat (x := c), e]; rfl)
  show fmt (valA (dval 0 c) (d :: s)) = _
  have e : dval 0 c = c.toNat - 48 := by simp [dval]
  rw [e, fmt_valA hs _ (by omega), fmt_small (by omega), ofNat_dig hc]
  rfl
theorem isNum_of_fmt {s : Str} (hd : s.all dig = true) (h : fmt (valA 0 s) = s) : isNum s = true := by
 match s, hd, h with
 | [], _, h =>
  exfalso
  have : fmt (valA 0 []) = [48] := by simp [valA, fmt_small]
  rw [this] at h; cases h
 | [c], hd, _ => simpa [isNum] using hd
 | c :: d :: s, hd, h =>
  simp only [isNum, hd, Bool.true_and, bne_iff_ne, ne_eq]
  intro hc
  subst hc
  rcases Nat.eq_zero_or_pos (valA 0 (48 :: d :: s)) with h0 | h0
  ·rw [h0] at h
   have : fmt 0 = [48] := by simp [fmt_small]
   rw [this] at h; cases h
  ·obtain ⟨c, r, e, hc⟩ := fmt_head _ h0
   rw [h] at e; cases e; exact hc rfl
theorem isNum_digits {s : Str} (h : isNum s = true) : s.all dig = true := by
 match s, h with
 | [c], h => simpa [isNum] using h
 | c :: d :: s, h => simp only [isNum, Bool.and_eq_true] at h; exact h.1
theorem isNum_len {s : Str} (h : isNum s = true) (hv : valA 0 s ≤ 9999) : s.length ≤ 4 := by
 match s, h with
 | [c], _ => simp
 | c :: d :: s, h =>
  have hd := isNum_digits h
  simp only [isNum, Bool.and_eq_true, bne_iff_ne, ne_eq] at h
  have hc : dig c = true := by have := h.1; simp only [List.all_cons, Bool.and_eq_true] at this; exact this.1
  have h2 := dig_range hc
  have h3 : c.toNat ≠ 48 := fun e => h.2 (by rw [← UInt8.ofNat_toNat (x := c), e]; rfl)
  have h4 : valA (dval 0 c) (d :: s) ≤ 9999 := hv
  have h5 := valA_ge (d :: s) (dval 0 c)
  rcases Nat.lt_or_ge 4 (c :: d :: s).length with h6 | h6
  ·exfalso
   have h7 : 10 ^ 4 ≤ 10 ^ (d :: s).length := Nat.pow_le_pow_right (by omega) (by simp at h6 ⊢; omega)
   have h8 : 1 ≤ dval 0 c := by unfold dval; omega
   have h9 := Nat.mul_le_mul h8 h7
   omega
  ·exact h6
def numF (s : Str) : Bool := isNum s && decide (s.length ≤ 4)
def parseF (s : Str) : Int × Bool := if numF s then (valA 0 s, true) else (0, false)
theorem valA_lt4 {s : Str} (h : s.all dig = true) (hl : s.length ≤ 4) : valA 0 s ≤ 9999 := by
 have h1 := valA_lt h 0
 have h2 : 10 ^ s.length ≤ 10 ^ 4 := Nat.pow_le_pow_right (by omega) hl
 omega
theorem fmt_len4 {n : Nat} (h : n ≤ 9999) : (fmt n).length ≤ 4 := by
 rcases Nat.lt_or_ge n 10 with h1 | h1
 ·rw [fmt_small h1]; simp
 rw [fmt_big h1]
 rcases Nat.lt_or_ge (n / 10) 10 with h2 | h2
 ·rw [fmt_small h2]; simp
 rw [fmt_big h2]
 rcases Nat.lt_or_ge (n / 10 / 10) 10 with h3 | h3
 ·rw [fmt_small h3]; simp
 rw [fmt_big h3]
 rw [fmt_small (n := n / 10 / 10 / 10) (by omega)]; simp
theorem valA_snoc (s : Str) (c : UInt8) : valA 0 (s ++ [c]) = 10 * valA 0 s + (c.toNat - 48) := by
 unfold valA; rw [List.foldl_append]; rfl
open Abs
theorem sFormatInt.ret (n : Nat) (h : n ≤ 9999) : sFormatInt.Ret [.val (.int .i64 n)] (.str (fmt n)) [] := by
 refine sFormatInt.ir.ofS rfl rfl ?_
 repeat' first
  | (conv => whnf
     first | refine Need.mk rfl ?_ | refine Fork.decNo (by omega) ?_)
 refine ALoop.mk (Nat × Str × Fr) (fun a => ⟨[(0, .val (.int .i64 a.1)), (3, .str a.2.1)], [], a.2.2⟩) (fun a => fmt a.1 ++ a.2.1 = fmt n ∧ a.1 ≤ 9999) (fun a => a.1) ⟨(n, [], []), ⟨by simp, h⟩, ?_⟩ (fun a ha => ?_)
 ·repeat' first
   | exact trivial | refine wl_ ?_ ?_ ?_ ?_ | refine And.intro ?_ ?_ | with_reducible rfl | exact ble_ | refine AV.int_congr ?_ | refine AV.str_congr ?_ | (apply rfl)
 repeat' first
  | (conv => whnf
     first | refine Need.mk rfl ?_ | refine Need.fin ?_)
 conv => whnf
 have hd : (↑a.1 : Int).tmod 10 = (a.1 % 10 : Nat) := by rw [Int.tmod_eq_emod_of_nonneg (by omega)]; omega
 have hq : IntKind.i64.wrap ((↑a.1 : Int).tdiv 10) = (a.1 / 10 : Nat) := by rw [Int.tdiv_eq_ediv_of_nonneg (by omega), wrap64 (by omega) (by omega)]; omega
 have hl : a.2.1.length ≤ 4 := by
  have h1 := congrArg List.length ha.1
  have h2 := fmt_len4 h
  rw [List.length_append] at h1
  omega
 refine Bytes.mk [UInt8.ofNat (48 + a.1 % 10)] ?_ ?_
 ·rw [hd, wrap64 (by omega) (by omega)]
  simp only [List.map_cons, List.map_nil, byteCell]
  rw [Go.IntWalk.u8_in _ ⟨by omega, by omega⟩]
  congr 4
  simp
  omega
 repeat' first
  | (conv => whnf
     first | refine Need.mk rfl ?_ | refine Need.fin ?_ | refine Need.mk ?_ ?_ | refine Fork.dec (fun _ => ?_) (fun _ => ?_) | refine Round.mk ?_ | refine Final.mk ?_ rfl)
  | refine AV.str_congr ?_
 ·simp only [List.length_cons, List.length_nil]; omega
 ·rename_i h1
  rw [hq] at h1
  rw [← ha.1, fmt_small (by omega)]
  have : a.1 % 10 = a.1 := by omega
  rw [this]
 ·rename_i h1
  rw [hq] at h1
  refine ⟨(a.1 / 10, [UInt8.ofNat (48 + a.1 % 10)] ++ a.2.1, a.2.2 ++ [(5, 1, 1)]), ⟨?_, by show a.1 / 10 ≤ 9999; omega⟩, ?_, by show a.1 / 10 < a.1; omega⟩
  ·rw [← ha.1, fmt_big (n := a.1) (by omega), List.append_assoc]
  ·repeat' first
    | exact trivial | refine wl_ ?_ ?_ ?_ ?_ | refine And.intro ?_ ?_ | with_reducible rfl | exact ble_ | refine AV.int_congr ?_ | refine AV.str_congr ?_ | (apply rfl)
   exact hq
theorem parseF_no {x : Str} (h : numF x = false) : parseF x = (0, false) := by
 unfold parseF; rw [if_neg (by simp [h])]
theorem parseF_yes {x : Str} (h : numF x = true) : parseF x = (↑(valA 0 x), true) := by
 unfold parseF; rw [if_pos h]
theorem digs_no {x : Str} {i : Nat} (hi : i < x.length) (h : dig (x.getD i 0) = false) : numF x = false := by
 cases hn : numF x with
 | false => rfl
 | true =>
  exfalso
  simp only [numF, Bool.and_eq_true] at hn
  have := List.all_eq_true.1 (isNum_digits hn.1) (x.getD i 0) (by simp [List.getD, hi])
  rw [h] at this; cases this
theorem digs_succ {x : Str} {i : Nat} (hi : i < x.length) (h : (x.take i).all dig = true) (hc : dig (x.getD i 0) = true) : (x.take (i + 1)).all dig = true := by
 rw [take_succ' 0 hi, List.all_append, h]; simpa using hc
theorem val_succ {x : Str} {i : Nat} (hi : i < x.length) : valA 0 (x.take (i + 1)) = 10 * valA 0 (x.take i) + ((x.getD i 0).toNat - 48) := by
 rw [take_succ' 0 hi, valA_snoc]
theorem wrap_val {v : Nat} {c : UInt8} (hv : v ≤ 9999) (hc : dig c = true) : IntKind.i64.wrap (IntKind.i64.wrap (10 * (v : Int)) + IntKind.i64.wrap (IntKind.u8.wrap ((c.toNat : Int) - 48))) = ((10 * v + (c.toNat - 48) : Nat) : Int) := by
 have h := dig_range hc
 rw [Go.IntWalk.u8_in _ ⟨by omega, by omega⟩, wrap64 (x := 10 * (v : Int)) (by omega) (by omega), wrap64 (x := (c.toNat : Int) - 48) (by omega) (by omega), wrap64 (by omega) (by omega)]
 omega
theorem valA_le4 {x : Str} {i : Nat} (h : (x.take i).all dig = true) (hx : x.length ≤ 4) : valA 0 (x.take i) ≤ 9999 :=
 valA_lt4 h (by rw [List.length_take]; omega)
theorem sParseInt.ret (x : Str) (hx : x.length ≤ 1048576) : sParseInt.Ret [.str x] (.tup [.val (.int .i64 (parseF x).1), .val (.bool (parseF x).2)]) [] := by
 refine sParseInt.ir.ofS rfl rfl ?_
 repeat' first
  | (conv => whnf
     first | refine Fork.neg (fun _ => ?_) (fun _ => ?_) | refine FinVal.keep ?_ | refine Final.mk ?_ rfl | refine ACall.scalA _ _ (l1In.ret _ _ _) rfl ?_)
 ·rename_i h
  have : numF x = false := by
   simp only [numF, Bool.and_eq_false_iff, decide_eq_false_iff_not] at h ⊢
   rcases h with h | h
   ·left
    have : x.length = 0 := by omega
    rw [List.eq_nil_of_length_eq_zero this]; rfl
   ·right; omega
  rw [parseF_no this]
 rename_i h
 simp only [Bool.and_eq_true, decide_eq_true_eq] at h
 have hl : x.length ≤ 4 := by omega
 clear h
 skip
 refine ALoop.mk Nat (fun i => ⟨[(0, .str x), (4, .val (.int .i64 (valA 0 (x.take i)))), (5, .val (.int .i64 i))], [], []⟩) (fun i => i ≤ x.length ∧ (x.take i).all dig = true) (fun i => x.length - i) ⟨0, ⟨Nat.zero_le _, rfl⟩, ?_⟩ (fun i hi => ?_)
 ·repeat' first
   | exact trivial | refine wl_ ?_ ?_ ?_ ?_ | refine And.intro ?_ ?_ | with_reducible rfl | exact ble_ | refine AV.int_congr ?_ | refine AV.str_congr ?_ | (apply rfl)
 repeat' first
  | (conv => whnf
     first | refine Need.mk (fun h => h) ?_ | refine Need.mk rfl ?_ | refine Need.fin ?_ | refine Fork.dec (fun _ => ?_) (fun _ => ?_) | refine Fork.sne (fun _ => ?_) (fun _ => ?_) | refine Fork.mk (fun _ => ?_) (fun _ => ?_) | refine Round.mk ?_ | refine FinVal.keep ?_ | refine Final.mk ?_ rfl | refine ACall.scalA _ _ (sFormatInt.ret _ ?_) rfl ?_)
 ·rename_i h0 h
  have hn : numF x = false := digs_no (i := i) (by omega) (by
   simp only [Int.toNat_natCast] at h
   simp only [Bool.or_eq_true, decide_eq_true_eq] at h
   simp only [dig, digit, Bool.and_eq_false_iff, decide_eq_false_iff_not]; omega)
  rw [parseF_no hn]
 ·rename_i h0 h
  have hc : dig (x.getD i 0) = true := by
   simp only [Int.toNat_natCast] at h
   simp only [Bool.or_eq_false_iff, decide_eq_false_iff_not] at h
   simp only [dig, digit, Bool.and_eq_true, decide_eq_true_eq]; omega
  have h1 := valA_le4 hi.2 hl
  have h2 := wrap_val h1 hc
  refine ⟨i + 1, ⟨by omega, digs_succ (by omega) hi.2 hc⟩, ?_, by omega⟩
  repeat' first
   | exact trivial | refine wl_ ?_ ?_ ?_ ?_ | refine And.intro ?_ ?_ | with_reducible rfl | exact ble_ | refine AV.int_congr ?_ | refine AV.str_congr ?_ | (apply rfl)
  ·simp only [Int.toNat_natCast]
   rw [h2, val_succ (by omega)]
  ·rw [wrap64 (by omega) (by omega)]; rfl
 ·exact valA_le4 hi.2 hl
 ·rename_i h0 h
  rw [List.take_of_length_le (by omega)] at h
  have hn : numF x = false := by
   cases hn : numF x with
   | false => rfl
   | true => simp only [numF, Bool.and_eq_true] at hn; exact absurd (fmt_of_isNum hn.1) h
  rw [parseF_no hn]
 ·rename_i h0 h
  rw [List.take_of_length_le (by omega)] at h hi ⊢
  have hn : numF x = true := by simp [numF, isNum_of_fmt hi.2 h, hl]
  rw [parseF_yes hn]
theorem wrap_val32 {v : Nat} {c : UInt8} (hv : v ≤ 9999) (hc : dig c = true) : IntKind.i64.wrap (IntKind.i64.wrap (10 * (v : Int)) + IntKind.i64.wrap (IntKind.i32.wrap ((c.toNat : Int) - 48))) = ((10 * v + (c.toNat - 48) : Nat) : Int) := by
 have h := dig_range hc
 rw [Go.IntWalk.i32_in _ ⟨by omega, by omega⟩, wrap64 (x := 10 * (v : Int)) (by omega) (by omega), wrap64 (x := (c.toNat : Int) - 48) (by omega) (by omega), wrap64 (by omega) (by omega)]
 omega
def plainHead (x : Str) : Bool := !(x == [] || (decide (1 < (x.length : Int)) && ((x.getD 0 0).toNat : Int) == 48))
theorem plainHead_no {x : Str} (h : plainHead x = false) : numF x = false := by
 match x, h with
 | [], _ => rfl
 | [c], h => simp [plainHead] at h
 | c :: d :: x, h =>
  have : c = 48 := by
   have h1 : c.toNat = 48 := by simp [plainHead] at h; omega
   rw [← UInt8.ofNat_toNat (x := c), h1]; rfl
  subst this
  simp [numF, isNum]
theorem isNum_of {x : Str} (h : plainHead x = true) (hd : x.all dig = true) : isNum x = true := by
 match x, h, hd with
 | [c], _, hd => simpa [isNum] using hd
 | c :: d :: x, h, hd =>
  simp only [isNum, hd, Bool.true_and, bne_iff_ne, ne_eq]
  rintro rfl
  simp [plainHead] at h; omega
theorem dec_digit {x : Str} {i : Nat} (hi : i < x.length) (h : digit (decodeS x i).1 = true) : dig (x.getD i 0) = true ∧ decodeS x i = ((x.getD i 0).toNat, 1) := by
 rcases dec_cases x i hi with ⟨_, e⟩ | ⟨_, e⟩
 ·rw [e] at h; exact ⟨h, e⟩
 ·simp [digit] at h; omega
theorem dec_digit_no {x : Str} {i : Nat} (hi : i < x.length) (h : digit (decodeS x i).1 = false) : dig (x.getD i 0) = false := by
 rcases dec_cases x i hi with ⟨_, e⟩ | ⟨e, _⟩
 ·rw [e] at h; exact h
 ·simp only [dig, digit, Bool.and_eq_false_iff, decide_eq_false_iff_not]; omega
theorem pParseInt.ret (x : Str) (hx : x.length ≤ 1048576) : pParseInt.Ret [.str x] (.tup [.val (.int .i64 (parseF x).1), .val (.bool (parseF x).2)]) [] := by
 refine pParseInt.ir.ofS rfl rfl ?_
 repeat' first
  | (conv => whnf
     first | refine Need.mk (fun h => h) ?_ | refine Need.mk rfl ?_ | refine Need.fin ?_ | refine Fork.mk (fun _ => ?_) (fun _ => ?_) | refine FinVal.keep ?_ | refine Final.mk ?_ rfl)
 ·rename_i h
  have : plainHead x = false := by unfold plainHead; rw [Bool.not_eq_false']; exact h
  rw [parseF_no (plainHead_no this)]
 rename_i h
 have hp : plainHead x = true := by unfold plainHead; rw [Bool.not_eq_true']; exact h
 clear h
 skip
 refine ALoop.mk Nat (fun i => ⟨[(0, .str x), (4, .val (.int .i64 (valA 0 (x.take i)))), (20, .bptr 0 0)], [.iter x i], []⟩) (fun i => i ≤ x.length ∧ (x.take i).all dig = true ∧ valA 0 (x.take i) ≤ 9999) (fun i => x.length - i) ⟨0, ⟨Nat.zero_le _, rfl, by simp [valA]⟩, ?_⟩ (fun i hi => ?_)
 ·repeat' first
   | exact trivial | refine wl_ ?_ ?_ ?_ ?_ | refine And.intro ?_ ?_ | with_reducible rfl | exact ble_ | refine AV.int_congr ?_ | refine AV.str_congr ?_ | (apply rfl)
 repeat' first
  | contradiction
  | (conv => whnf
     first | refine Need.mk rfl ?_ | refine Fork.dec (fun _ => ?_) (fun _ => ?_) | refine Fork.neg (fun _ => ?_) (fun _ => ?_) | refine Fork.mk (fun _ => ?_) (fun _ => ?_) | refine Round.mk ?_ | refine FinVal.keep ?_ | refine Final.mk ?_ rfl | refine ACall.scalA _ _ (isDigit.ret _) rfl ?_)
 ·rename_i h0 _ h
  rw [parseF_no (digs_no h0 (dec_digit_no h0 h))]
 ·rename_i h0 _ h h9
  obtain ⟨hc, e⟩ := dec_digit h0 h
  rw [e, wrap_val32 hi.2.2 hc, ← val_succ h0] at h9
  have hd := digs_succ h0 hi.2.1 hc
  have hn : numF x = false := by
   cases hn : numF x with
   | false => rfl
   | true =>
    exfalso
    simp only [numF, Bool.and_eq_true, decide_eq_true_eq] at hn
    have := valA_le4 hd hn.2
    omega
  rw [parseF_no hn]
 ·rename_i h0 _ h h9
  obtain ⟨hc, e⟩ := dec_digit h0 h
  rw [e, wrap_val32 hi.2.2 hc, ← val_succ h0] at h9
  refine ⟨i + 1, ⟨h0, digs_succ h0 hi.2.1 hc, by omega⟩, ?_, by omega⟩
  repeat' first
   | exact trivial | refine wl_ ?_ ?_ ?_ ?_ | refine And.intro ?_ ?_ | with_reducible rfl | exact ble_ | refine AV.int_congr ?_ | refine AV.str_congr ?_ | (apply rfl)
  ·rw [e, wrap_val32 hi.2.2 hc, ← val_succ h0]
  ·simp [e]
 ·rename_i h0 _
  rw [List.take_of_length_le (by omega)] at hi ⊢
  have h1 := isNum_of hp hi.2.1
  have hn : numF x = true := by simp [numF, h1, isNum_len h1 hi.2.2]
  rw [parseF_yes hn]
open Abs
def nameF (x : Str) : Bool := atomF x && letter (x.getD 0 0).toNat
def varF (x : Str) : Bool := decide (1 < (x.length : Int)) && ((x.getD 0 0).toNat : Int) == 63 && atomF (x.drop 1)
theorem atomF_pos {x : Str} (h : atomF x = true) : 1 ≤ x.length := by
 simp only [atomF, Bool.and_eq_true, decide_eq_true_eq] at h; omega
theorem sIsName.ret (x : Str) (hx : x.length ≤ 1048576) : sIsName.Ret [.str x] (.val (.bool (nameF x))) [] := by
 refine sIsName.ir.of rfl ?_
 repeat' first
  | (conv => whnf
     first | refine Need.mk (fun h => h) ?_ | refine Need.mk ?_ ?_ | refine FinVal.keep ?_ | refine Final.mk ?_ rfl | refine ACall.scalA _ _ (sIsAtom.ret _ ?_) rfl ?_ | refine AGCall.mkA _ _ (fun hg => l1In.ret _ _ _) rfl ?_)
  | refine AV.bool_congr ?_
 ·exact hx
 ·intro h; have := atomF_pos h; omega
 ·simp only [nameF, letter, wrap64_byte]; rfl
theorem pIsName.ret (x : Str) (hx : x.length ≤ 1048576) : pIsName.Ret [.str x] (.val (.bool (nameF x))) [] := by
 refine pIsName.ir.of rfl ?_
 repeat' first
  | (conv => whnf
     first | refine Need.mk (fun h => h) ?_ | refine Need.mk ?_ ?_ | refine FinVal.keep ?_ | refine Final.mk ?_ rfl | refine ACall.scalA _ _ (pIsAtom.ret _ ?_) rfl ?_ | refine AGCall.mkA _ _ (fun hg => isLetter.ret _) rfl ?_)
  | refine AV.bool_congr ?_
 ·exact hx
 ·intro h; have := atomF_pos h; omega
 ·simp only [nameF, wrap32_byte]; rfl
end Go.Proofs.YtoindmahilbalaaGreat
namespace Go.Proofs.YtoindmahilbalaaGreat
open Abs
attribute [local irreducible] parseF
@[irreducible] def scmp (a b : Str) : Int := if Op.bytesLess a b then -1 else if a = b then 0 else 1
@[irreducible] def icmp (a b : Int) : Int := if a < b then -1 else if a = b then 0 else 1
def cmpA (a b : Str) : Int :=
 if (parseF a).2 then (if (parseF b).2 then icmp (parseF a).1 (parseF b).1 else -1) else (if (parseF b).2 then 1 else scmp a b)
theorem sCmp.ret (a b : Str) : sCmp.Ret [.str a, .str b] (.val (.int .i64 (scmp a b))) [] := by
 refine sCmp.ir.of rfl ?_
 repeat' first
  | (conv => whnf
     first | refine Fork.neg (fun _ => ?_) (fun _ => ?_) | refine Fork.mk (fun _ => ?_) (fun _ => ?_) | refine FinVal.keep ?_ | refine Final.mk ?_ rfl)
  | refine AV.int_congr ?_
 ·rename_i h; simp [scmp, h]
 ·rename_i h1 h; simp only [Bool.or_eq_false_iff, beq_eq_false_iff_ne] at h; simp [scmp, h1, h.2]
 ·rename_i h1 h; simp only [h1, Bool.false_or, beq_iff_eq] at h; subst h; simp [scmp, bl_irrefl]
theorem isNaNInt.ret (a : Int) : isNaNInt.Ret [.val (.int .i64 a)] (.val (.bool false)) [] := by
 refine isNaNInt.ir.of rfl ?_
 repeat' first
  | (conv => whnf
     first | refine Need.mk rfl ?_ | refine FinVal.keep ?_ | refine Final.mk ?_ rfl)
  | refine AV.bool_congr ?_
 simp
theorem isNaNString.ret (a : Str) : isNaNString.Ret [.str a] (.val (.bool false)) [] := by
 refine isNaNString.ir.of rfl ?_
 repeat' first
  | (conv => whnf
     first | refine FinVal.keep ?_ | refine Final.mk ?_ rfl)
  | refine AV.bool_congr ?_
 simp
theorem cmpInt.ret (a b : Int) : cmpInt.Ret [.val (.int .i64 a), .val (.int .i64 b)] (.val (.int .i64 (icmp a b))) [] := by
 refine cmpInt.ir.of rfl ?_
 repeat' first
  | contradiction
  | (conv => whnf
     first | refine Need.mk rfl ?_ | refine Fork.no (by assumption) ?_ | refine Fork.dec (fun _ => ?_) (fun _ => ?_) | refine Fork.mk (fun _ => ?_) (fun _ => ?_) | refine FinVal.keep ?_ | refine Final.mk ?_ rfl | refine ACall.scalA _ _ (isNaNInt.ret _) rfl ?_)
  | refine AV.int_congr ?_
 ·rename_i h; simp [icmp, h]
 ·rename_i h1 h; simp only [icmp]; split <;> (try split) <;> omega
 ·rename_i h1 h; simp only [icmp]; split <;> (try split) <;> omega
theorem cmpString.ret (a b : Str) : cmpString.Ret [.str a, .str b] (.val (.int .i64 (scmp a b))) [] := by
 refine cmpString.ir.of rfl ?_
 repeat' first
  | contradiction
  | (conv => whnf
     first | refine Fork.no (by assumption) ?_ | refine Fork.neg (fun _ => ?_) (fun _ => ?_) | refine Fork.mk (fun _ => ?_) (fun _ => ?_) | refine FinVal.keep ?_ | refine Final.mk ?_ rfl | refine ACall.scalA _ _ (isNaNString.ret _) rfl ?_)
  | refine AV.int_congr ?_
 ·rename_i h; simp [scmp, h]
 ·rename_i h1 h; simp only [Bool.or_eq_false_iff, beq_eq_false_iff_ne] at h; simp [scmp, h1, h.2]
 ·rename_i h1 h; simp only [h1, Bool.false_or, beq_iff_eq] at h; subst h; simp [scmp, bl_irrefl]
theorem sCompareAtoms.ret (a b : Str) (ha : a.length ≤ 1048576) (hb : b.length ≤ 1048576) : sCompareAtoms.Ret [.str a, .str b] (.val (.int .i64 (cmpA a b))) [] := by
 refine sCompareAtoms.ir.of rfl ?_
 repeat' first
  | (conv => whnf
     first | refine Need.mk (fun h => h) ?_ | refine Need.mk rfl ?_ | refine Fork.yes (by assumption) ?_ | refine Fork.mk (fun _ => ?_) (fun _ => ?_) | refine FinVal.keep ?_ | refine Final.mk ?_ rfl | refine ACall.scalA _ _ (sParseInt.ret _ ?_) rfl ?_ | refine ACall.scalA _ _ (sCmp.ret _ _) rfl ?_)
  | refine AV.int_congr ?_
 ·exact ha
 ·exact hb
 all_goals unfold cmpA icmp
 all_goals (cases hp : (parseF a).2 <;> cases hq : (parseF b).2)
 all_goals simp only [hp, hq, Bool.true_and, Bool.false_and, Bool.and_true, Bool.and_false, Bool.not_true, Bool.not_false, decide_eq_true_eq, decide_eq_false_iff_not, Bool.false_eq_true, Bool.true_eq_false, reduceIte] at *
 all_goals (first | rfl | (split <;> (try split) <;> omega))
theorem pCompareAtoms.ret (a b : Str) (ha : a.length ≤ 1048576) (hb : b.length ≤ 1048576) : pCompareAtoms.Ret [.str a, .str b] (.val (.int .i64 (cmpA a b))) [] := by
 refine pCompareAtoms.ir.of rfl ?_
 repeat' first
  | (conv => whnf
     first | refine Need.mk (fun h => h) ?_ | refine Fork.mk (fun _ => ?_) (fun _ => ?_) | refine FinVal.keep ?_ | refine Final.mk ?_ rfl | refine ACall.scalA _ _ (pParseInt.ret _ ?_) rfl ?_ | refine ACall.scalA _ _ (cmpInt.ret _ _) rfl ?_ | refine ACall.scalA _ _ (cmpString.ret _ _) rfl ?_)
  | refine AV.int_congr ?_
 ·exact ha
 ·exact hb
 all_goals simp_all [cmpA]
open Abs
def sIsFact.code : ACode := (q_ (r_ [s 1 (.box (t 0)), s 2 mf_]) (q_ (q_ (r_ [s 3 (.mv (i_ 0))]) (.block 0 (.loop (q_ (q_ (r_ [v_ 4 3, s 5 (f_ 1 1), s 6 (l_ 5), s 7 (.len false (t 6)), s 8 (.bin .lss (t 4) (t 7))]) (.cond (t 8) .skip (.exit 0))) (q_ (.block 1 (q_ (r_ [s 11 (f_ 1 1), s 12 (l_ 11), v_ 13 3, s 14 (.iadr 1 (t 12) (t 13)), s 15 (l_ 14), s 16 (.call 120 [t 15]), s 17 (.not (t 16))]) (.cond (t 17) (q_ (r_ [s 2 mf_]) .ret) .skip))) (r_ [v_ 9 3, s 10 (.bin .add (t 9) (i_ 1)), v_ 3 10])))))) (q_ (r_ [s 18 (f_ 0 1), s 19 (l_ 18), s 20 (.call 81 [t 19]), v_ 21 20, g 21 true 22 (f_ 1 1), g 21 true 23 (l_ 22), g 21 true 24 (.len false (t 23)), g 21 true 25 (.bin .leq (t 24) (i_ 3)), s 26 (.and (t 21) (t 25)), v_ 2 26]) .ret)))
theorem sIsFact.ir : IrAt Tryz.prog 91 sIsFact.code [0, 1, 2, 3] [.tmp 2] Tryz.f91.ntmps := ir_ Tryz.func91
abbrev sIsFact.Ret (args : List AV) (r : AV) (frs : Fr) : Prop := Abs.Ret true Tryz.prog 91 args r frs
def pIsFact.code : ACode := (q_ (r_ [s 1 (.box (t 0)), s 2 mf_]) (q_ (r_ [s 3 (f_ 0 1), s 4 (l_ 3), s 5 (f_ 1 1), s 6 (l_ 5), s 7 (.call 146 [t 4, t 6, (.func 133)]), v_ 2 7]) .ret))
theorem pIsFact.ir : IrAt Tryz.prog 102 pIsFact.code [0, 1, 2] [.tmp 2] Tryz.f102.ntmps := ir_ Tryz.func102
abbrev pIsFact.Ret (args : List AV) (r : AV) (frs : Fr) : Prop := Abs.Ret true Tryz.prog 102 args r frs
def sCompareFacts.code : ACode := (q_ (r_ [s 2 (.box (t 0)), s 3 (.box (t 1)), s 4 (.mv (i_ 0))]) (q_ (q_ (r_ [s 7 (f_ 0 2), s 8 (l_ 7), s 9 (f_ 0 3), s 10 (l_ 9), s 11 (.bin .neq (t 8) (t 10))]) (.cond (t 11) (q_ (r_ [s 12 (f_ 0 2), s 13 (l_ 12), s 14 (f_ 0 3), s 15 (l_ 14), s 16 (.call 125 [t 13, t 15]), v_ 4 16]) .ret) .skip)) (q_ (q_ (r_ [s 5 (.mv (i_ 0))]) (.block 0 (.loop (q_ (q_ (r_ [v_ 17 5, s 18 (f_ 1 2), s 19 (l_ 18), s 20 (.len false (t 19)), s 21 (.bin .lss (t 17) (t 20)), v_ 22 21, g 22 true 23 (.mv (t 5)), g 22 true 24 (f_ 1 3), g 22 true 25 (l_ 24), g 22 true 26 (.len false (t 25)), g 22 true 27 (.bin .lss (t 23) (t 26)), s 28 (.and (t 22) (t 27))]) (.cond (t 28) .skip (.exit 0))) (q_ (.block 1 (q_ (.region true [s 31 (f_ 1 2), s 32 (l_ 31), v_ 33 5, s 34 (.iadr 1 (t 32) (t 33)), s 35 (l_ 34), s 36 (f_ 1 3), s 37 (l_ 36), v_ 38 5, s 39 (.iadr 1 (t 37) (t 38)), s 40 (l_ 39), s 41 (.call 126 [t 35, t 40]), v_ 6 41]) (q_ (r_ [v_ 42 6, s 43 (.bin .neq (t 42) (i_ 0))]) (.cond (t 43) (q_ (r_ [v_ 44 6, v_ 4 44]) .ret) .skip)))) (r_ [v_ 29 5, s 30 (.bin .add (t 29) (i_ 1)), v_ 5 30])))))) (q_ (.block 2 (q_ (r_ [s 46 (f_ 1 2), s 47 (l_ 46), s 48 (.len false (t 47)), s 49 (f_ 1 3), s 50 (l_ 49), s 51 (.len false (t 50)), s 52 (.bin .lss (t 48) (t 51)), v_ 45 52]) (.cond (t 45) (q_ (r_ [s 4 (.mv (.const (.int .i64 (-1))))]) .ret) (q_ (r_ [s 54 (f_ 1 2), s 55 (l_ 54), s 56 (.len false (t 55)), s 57 (f_ 1 3), s 58 (l_ 57), s 59 (.len false (t 58)), s 60 (.bin .gtr (t 56) (t 59)), v_ 53 60]) (.cond (t 53) (q_ (r_ [s 4 (.mv (i_ 1))]) .ret) .skip))))) (q_ (r_ [s 4 (.mv (i_ 0))]) .ret)))))
theorem sCompareFacts.ir : IrAt Tryz.prog 92 sCompareFacts.code [0, 1, 2, 3, 4, 5, 6] [.tmp 4] Tryz.f92.ntmps := ir_ Tryz.func92
abbrev sCompareFacts.Ret (args : List AV) (r : AV) (frs : Fr) : Prop := Abs.Ret true Tryz.prog 92 args r frs
def pCompareFacts.code : ACode := (q_ (r_ [s 2 (.box (t 0)), s 3 (.box (t 1)), s 4 (.mv (i_ 0))]) (q_ (q_ (r_ [s 6 (f_ 0 2), s 7 (l_ 6), s 8 (f_ 0 3), s 9 (l_ 8), s 10 (.call 147 [t 7, t 9]), v_ 5 10]) (q_ (r_ [v_ 11 5, s 12 (.bin .neq (t 11) (i_ 0))]) (.cond (t 12) (q_ (r_ [v_ 13 5, v_ 4 13]) .ret) .skip))) (q_ (r_ [s 14 (f_ 1 2), s 15 (l_ 14), s 16 (f_ 1 3), s 17 (l_ 16), s 18 (.call 148 [t 15, t 17, (.func 149)]), v_ 4 18]) .ret)))
theorem pCompareFacts.ir : IrAt Tryz.prog 103 pCompareFacts.code [0, 1, 2, 3, 4, 5] [.tmp 4] Tryz.f103.ntmps := ir_ Tryz.func103
abbrev pCompareFacts.Ret (args : List AV) (r : AV) (frs : Fr) : Prop := Abs.Ret true Tryz.prog 103 args r frs
def sAreFacts.code : ACode := (q_ (r_ [s 2 mf_]) (q_ (q_ (r_ [s 3 (.mv (i_ 0))]) (.block 0 (.loop (q_ (q_ (r_ [v_ 4 3, v_ 5 0, s 6 (.len false (t 5)), s 7 (.bin .lss (t 4) (t 6))]) (.cond (t 7) .skip (.exit 0))) (q_ (.block 1 (q_ (.region true [v_ 10 0, v_ 11 3, s 12 (.iadr 2 (t 10) (t 11)), s 13 (a_ 2 12), s 14 (.call 91 [t 13]), s 15 (.not (t 14)), v_ 16 15, g 16 false 17 (.mv (t 3)), g 16 false 18 (.bin .gtr (t 17) (i_ 0)), g 16 false 19 (.mv (t 18)), g 19 true 20 (.mv (t 0)), g 19 true 21 (.mv (t 3)), g 19 true 22 (.bin .sub (t 21) (i_ 1)), g 19 true 23 (.iadr 2 (t 20) (t 22)), g 19 true 24 (a_ 2 23), g 19 true 25 (.mv (t 0)), g 19 true 26 (.mv (t 3)), g 19 true 27 (.iadr 2 (t 25) (t 26)), g 19 true 28 (a_ 2 27), g 19 true 29 (.call 92 [t 24, t 28]), g 19 true 30 (.bin .geq (t 29) (i_ 0)), g 16 false 31 (.and (t 19) (t 30)), s 32 (.or (t 16) (t 31))]) (.cond (t 32) (q_ (r_ [s 2 mf_]) .ret) .skip))) (r_ [v_ 8 3, s 9 (.bin .add (t 8) (i_ 1)), v_ 3 9])))))) (q_ (r_ [v_ 33 0, s 34 (.len false (t 33)), s 35 (.bin .leq (t 34) (i_ 24)), v_ 2 35]) .ret)))
theorem sAreFacts.ir : IrAt Tryz.prog 49 sAreFacts.code [0, 2, 3] [.tmp 2] Tryz.f49.ntmps := ir_ Tryz.func49
abbrev sAreFacts.Ret (args : List AV) (r : AV) (frs : Fr) : Prop := Abs.Ret true Tryz.prog 49 args r frs
def pAreFacts.code : ACode := (q_ (r_ [s 2 mf_]) (q_ (q_ (r_ [v_ 5 0, s 6 (.len false (t 5)), s 7 (.bin .gtr (t 6) (i_ 24))]) (.cond (t 7) (q_ (r_ [s 2 mf_]) .ret) .skip)) (q_ (q_ (r_ [v_ 8 0, s 9 (.len false (t 8)), s 10 (.mv (i_ 0))]) (.block 0 (.loop (q_ (r_ [s 11 (.bin .lss (t 10) (t 9))]) (q_ (.cond (t 11) .skip (.exit 0)) (q_ (.block 1 (q_ (r_ [v_ 12 10, s 13 (.iadr 2 (t 8) (t 10)), s 14 (a_ 2 13), s 4 (.alloc [(.string (.mk (.mk []))), (.slice none 0 0)]), v_ 3 12, ⟨none, none, (.store 2 (t 4) (t 14))⟩]) (q_ (.region true [s 15 (a_ 2 4), s 16 (.call 102 [t 15]), s 17 (.not (t 16)), v_ 18 17, g 18 false 19 (.mv (t 3)), g 18 false 20 (.bin .gtr (t 19) (i_ 0)), g 18 false 21 (.mv (t 20)), g 21 true 22 (.mv (t 0)), g 21 true 23 (.mv (t 3)), g 21 true 24 (.bin .sub (t 23) (i_ 1)), g 21 true 25 (.iadr 2 (t 22) (t 24)), g 21 true 26 (a_ 2 25), g 21 true 27 (a_ 2 4), g 21 true 28 (.call 103 [t 26, t 27]), g 21 true 29 (.bin .geq (t 28) (i_ 0)), g 18 false 30 (.and (t 21) (t 29)), s 31 (.or (t 18) (t 30))]) (.cond (t 31) (q_ (r_ [s 2 mf_]) .ret) .skip)))) (r_ [s 32 (.bin .add (t 10) (i_ 1)), v_ 10 32]))))))) (q_ (r_ [s 2 mt_]) .ret))))
theorem pAreFacts.ir : IrAt Tryz.prog 56 pAreFacts.code [0, 2, 3, 4, 8, 9, 10, 11] [.tmp 2] Tryz.f56.ntmps := ir_ Tryz.func56
abbrev pAreFacts.Ret (args : List AV) (r : AV) (frs : Fr) : Prop := Abs.Ret true Tryz.prog 56 args r frs
def sCopy.code : ACode := (q_ (r_ [s 1 (.box (t 0)), s 2 (.alloc [(.string (.mk (.mk []))), (.slice none 0 0)])]) (q_ (.held [s 3 (f_ 0 1), s 4 (l_ 3), s 5 (f_ 1 1), s 6 (l_ 5), s 7 (.call 166 [t 6])] [s 8 (.build [(.string (.mk (.mk []))), (.slice none 0 0)] [(0, 1), (1, 1)] [t 4, t 7]), ⟨none, none, (.store 2 (t 2) (t 8))⟩]) .ret))
theorem sCopy.ir : IrAt Tryz.prog 131 sCopy.code [0, 1, 2] [.cell 2 true 2] Tryz.f131.ntmps := ir_ Tryz.func131
abbrev sCopy.Ret (args : List AV) (r : AV) (frs : Fr) : Prop := Abs.Ret true Tryz.prog 131 args r frs
def sCopies.code : ACode := (q_ (r_ [s 2 (.mv (.const (.slice none 0 0)))]) (q_ (r_ [s 5 (.bslice 86 2 true []), v_ 3 5]) (q_ (q_ (r_ [s 4 (.mv (i_ 0))]) (.block 0 (.loop (q_ (q_ (r_ [v_ 6 4, v_ 7 0, s 8 (.len false (t 7)), s 9 (.bin .lss (t 6) (t 8))]) (.cond (t 9) .skip (.exit 0))) (q_ (.block 1 (r_ [v_ 12 3, v_ 13 0, v_ 14 4, s 15 (.iadr 2 (t 13) (t 14)), s 16 (a_ 2 15), s 17 (.call 131 [t 16]), s 18 (.bslice 86 2 false [t 17]), s 19 (.append 86 2 40 (t 12) (t 18)), v_ 3 19])) (r_ [v_ 10 4, s 11 (.bin .add (t 10) (i_ 1)), v_ 4 11])))))) (q_ (r_ [v_ 20 3, v_ 2 20]) .ret))))
theorem sCopies.ir : IrAt Tryz.prog 130 sCopies.code [0, 2, 3, 4] [.tmp 2] Tryz.f130.ntmps := ir_ Tryz.func130
abbrev sCopies.Own (args : List AV) (x : Tr) : Prop := Abs.Own true Tryz.prog 130 args x
abbrev sCopies.Ret (args : List AV) (r : AV) (frs : Fr) : Prop := Abs.Ret true Tryz.prog 130 args r frs
def pcopyFact.code : ACode := (q_ (r_ [s 1 (.box (t 0)), s 2 (.alloc [(.string (.mk (.mk []))), (.slice none 0 0)])]) (q_ (.held [s 3 (f_ 0 1), s 4 (l_ 3), s 5 (f_ 1 1), s 6 (l_ 5), s 7 (.call 179 [t 6])] [s 8 (.build [(.string (.mk (.mk []))), (.slice none 0 0)] [(0, 1), (1, 1)] [t 4, t 7]), ⟨none, none, (.store 2 (t 2) (t 8))⟩]) .ret))
theorem pcopyFact.ir : IrAt Tryz.prog 153 pcopyFact.code [0, 1, 2] [.cell 2 true 2] Tryz.f153.ntmps := ir_ Tryz.func153
abbrev pcopyFact.Ret (args : List AV) (r : AV) (frs : Fr) : Prop := Abs.Ret true Tryz.prog 153 args r frs
def pcopyFacts.code : ACode := (q_ (r_ [s 2 (.mv (.const (.slice none 0 0)))]) (q_ (r_ [v_ 6 0, s 7 (.len false (t 6)), s 8 (.make 86 [(.string (.mk (.mk []))), (.slice none 0 0)] 2 40 (t 7)), v_ 3 8]) (q_ (q_ (r_ [v_ 9 0, s 10 (.len false (t 9)), s 11 (.mv (i_ 0))]) (.block 0 (.loop (q_ (r_ [s 12 (.bin .lss (t 11) (t 10))]) (q_ (.cond (t 12) .skip (.exit 0)) (q_ (.block 1 (q_ (r_ [v_ 13 11, s 14 (.iadr 2 (t 9) (t 11)), s 15 (a_ 2 14), s 5 (.alloc [(.string (.mk (.mk []))), (.slice none 0 0)]), v_ 4 13, ⟨none, none, (.store 2 (t 5) (t 15))⟩]) (r_ [v_ 16 3, v_ 17 4, s 18 (a_ 2 5), s 19 (.call 153 [t 18]), s 20 (.iadr 2 (t 16) (t 17)), ⟨none, none, (.store 2 (t 20) (t 19))⟩]))) (r_ [s 21 (.bin .add (t 11) (i_ 1)), v_ 11 21]))))))) (q_ (r_ [v_ 22 3, v_ 2 22]) .ret))))
theorem pcopyFacts.ir : IrAt Tryz.prog 152 pcopyFacts.code [0, 2, 3, 4, 5, 9, 10, 11, 12] [.tmp 2] Tryz.f152.ntmps := ir_ Tryz.func152
abbrev pcopyFacts.Own (args : List AV) (x : Tr) : Prop := Abs.Own true Tryz.prog 152 args x
abbrev pcopyFacts.Ret (args : List AV) (r : AV) (frs : Fr) : Prop := Abs.Ret true Tryz.prog 152 args r frs
open Abs
def isFactF (f : Fct) : Bool := nameF f.1 && decide ((f.2.length : Int) ≤ 3) && f.2.all atomF
theorem allA_no {x : List Str} {i : Nat} (hi : i < x.length) (h : atomF (x.getD i []) = false) : x.all atomF = false := by
 rw [List.all_eq_false]
 refine ⟨x.getD i [], ?_, by rw [h]; simp⟩
 simp [List.getD, hi]
theorem allA_succ {x : List Str} {i : Nat} (hi : i < x.length) (h : (x.take i).all atomF = true) (hc : atomF (x.getD i []) = true) : (x.take (i + 1)).all atomF = true := by
 rw [take_succ' [] hi, List.all_append, h]; simpa using hc
theorem sIsFact.ret (f : Fct) (h : tFct.size f ≤ 1048576) : sIsFact.Ret [.agg (oldL (tFct.q f))] (.val (.bool (isFactF f))) [] := by
 refine sIsFact.ir.of rfl ?_
 rw [tFct_size, tStrs_size] at h
 skip
 refine ALoop.mk Nat (fun i => ⟨[(1, .bptr 0 0), (3, .val (.int .i64 i))], [.cells .var (oldL (tFct.q f))], []⟩) (fun i => i ≤ f.2.length ∧ (f.2.take i).all atomF = true) (fun i => f.2.length - i) ⟨0, ⟨Nat.zero_le _, rfl⟩, ?_⟩ (fun i hi => ?_)
 ·repeat' first
   | exact trivial | refine wl_ ?_ ?_ ?_ ?_ | refine And.intro ?_ ?_ | with_reducible rfl | exact ble_ | refine AV.int_congr ?_ | (apply rfl)
 repeat' first
  | (conv => whnf
     first | refine Need.mk (fun h => h) ?_ | refine Need.mk rfl ?_ | refine Ix.strsF rfl ?_ | refine Fork.dec (fun _ => ?_) (fun _ => ?_) | refine Fork.neg (fun _ => ?_) (fun _ => ?_) | refine Round.mk ?_ | refine FinVal.keep ?_ | refine Final.mk ?_ rfl | refine ACall.scalA _ _ (sIsAtom.ret _ ?_) rfl ?_ | refine ACall.scalA _ _ (sIsName.ret _ ?_) rfl ?_)
  | refine AV.bool_congr ?_
 all_goals try simp only [length_rows, length_strs, length_oldLL, List.length_map, Int.toNat_natCast] at *
 ·have := str_le (l := f.2) (i := i) (by omega); omega
 ·rename_i h2 h1
  simp [isFactF, allA_no (by omega) h2]
 ·rename_i h2 h1
  refine ⟨i + 1, ⟨by omega, allA_succ (by omega) hi.2 h2⟩, ?_, by omega⟩
  repeat' first
   | exact trivial | refine wl_ ?_ ?_ ?_ ?_ | refine And.intro ?_ ?_ | with_reducible rfl | exact ble_ | refine AV.int_congr ?_ | (apply rfl)
  rw [wrap64 (by omega) (by omega)]; rfl
 ·omega
 ·have := hi.2
  rw [List.take_of_length_le (by omega)] at this
  simp [isFactF, this]
def cmpArgs : List Str → List Str → Int
 | [], [] => 0
 | [], _ :: _ => -1
 | _ :: _, [] => 1
 | a :: l, b :: m => if cmpA a b ≠ 0 then cmpA a b else cmpArgs l m
@[irreducible] def cmpF (f g : Fct) : Int := if f.1 = g.1 then cmpArgs f.2 g.2 else scmp f.1 g.1
theorem scmp_zero {a b : Str} : scmp a b = 0 ↔ a = b := by
 unfold scmp
 constructor
 ·intro h
  split at h
  ·omega
  ·split at h
   ·assumption
   ·omega
 ·rintro rfl; simp [bl_irrefl]
theorem cmpArgs_drop {l m : List Str} {i : Nat} (h1 : i < l.length) (h2 : i < m.length) :
 cmpArgs (l.drop i) (m.drop i) = if cmpA (l.getD i []) (m.getD i []) ≠ 0 then cmpA (l.getD i []) (m.getD i []) else cmpArgs (l.drop (i + 1)) (m.drop (i + 1)) := by
 rw [List.drop_eq_getElem_cons h1, List.drop_eq_getElem_cons h2, cmpArgs]
 simp [List.getD, h1, h2]
theorem cmpArgs_end {l m : List Str} (h : l = [] ∨ m = []) : cmpArgs l m = if l.length < m.length then -1 else if m.length < l.length then 1 else 0 := by
 cases l <;> cases m <;> simp_all [cmpArgs]
theorem sCompareFacts.ret (f g : Fct) (h : tFct.size f ≤ 1048576) (h' : tFct.size g ≤ 1048576) : sCompareFacts.Ret [.agg (oldL (tFct.q f)), .agg (oldL (tFct.q g))] (.val (.int .i64 (cmpF f g))) [] := by
 refine sCompareFacts.ir.of rfl ?_
 rw [tFct_size, tStrs_size] at h h'
 repeat' first
  | (conv => whnf
     first | refine Fork.sne (fun _ => ?_) (fun _ => ?_) | refine FinVal.keep ?_ | refine Final.mk ?_ rfl | refine ACall.scalA _ _ (sCmp.ret _ _) rfl ?_)
  | refine AV.int_congr ?_
 ·rename_i h1
  unfold cmpF; rw [if_neg h1]
 rename_i h1
 skip
 refine ALoop.mk Nat (fun i => ⟨[(2, .bptr 0 0), (3, .bptr 1 0), (5, .val (.int .i64 i))], [.cells .var (oldL (tFct.q f)), .cells .var (oldL (tFct.q g))], []⟩) (fun i => i ≤ f.2.length ∧ i ≤ g.2.length ∧ cmpArgs (f.2.drop i) (g.2.drop i) = cmpF f g) (fun i => f.2.length - i) ⟨0, ⟨Nat.zero_le _, Nat.zero_le _, by unfold cmpF; rw [if_pos h1]; rfl⟩, ?_⟩ (fun i hi => ?_)
 ·repeat' first
   | exact trivial | refine wl_ ?_ ?_ ?_ ?_ | refine And.intro ?_ ?_ | with_reducible rfl | exact ble_ | refine AV.int_congr ?_ | (apply rfl)
 obtain ⟨hi1, hi2, hi3⟩ := hi
 repeat' first
  | (conv => whnf
     first | refine Need.mk (fun h => h) ?_ | refine Need.mk rfl ?_ | refine Ix.strsF rfl ?_ | refine Fork.dec (fun _ => ?_) (fun _ => ?_) | refine Fork.bne (fun _ => ?_) (fun _ => ?_) | refine Fork.mk (fun _ => ?_) (fun _ => ?_) | refine Round.mk ?_ | refine FinVal.keep ?_ | refine Final.mk ?_ rfl | refine AQCall.mkA _ _ (fun hg => sCompareAtoms.ret _ _ ?_ ?_) rfl ?_)
  | refine AV.int_congr ?_
 all_goals try simp only [length_rows, length_strs, length_oldLL, List.length_map, Int.toNat_natCast] at *
 ·simp only [Bool.and_eq_true, decide_eq_true_eq] at *
  have := str_le (l := f.2) (i := i) (by omega); omega
 ·simp only [Bool.and_eq_true, decide_eq_true_eq] at *
  have := str_le (l := g.2) (i := i) (by omega); omega
 ·rename_i h2 h3
  simp only [Bool.and_eq_true, decide_eq_true_eq] at h3
  rw [← hi3, cmpArgs_drop (by omega) (by omega), if_pos h2]
 ·rename_i h2 h3
  simp only [Bool.and_eq_true, decide_eq_true_eq] at h3
  refine ⟨i + 1, ⟨by omega, by omega, ?_⟩, ?_, by omega⟩
  ·rw [cmpArgs_drop (by omega) (by omega), if_neg (by simpa using h2)] at hi3; exact hi3
  ·repeat' first
    | exact trivial | refine wl_ ?_ ?_ ?_ ?_ | refine And.intro ?_ ?_ | with_reducible rfl | exact ble_ | refine AV.int_congr ?_ | (apply rfl)
   rw [wrap64 (by omega) (by omega)]; rfl
 all_goals rename_i h2
 all_goals simp only [Bool.and_eq_false_iff, decide_eq_false_iff_not] at *
 all_goals rw [← hi3, cmpArgs_end (by rw [List.drop_eq_nil_iff, List.drop_eq_nil_iff]; omega)]
 all_goals simp only [List.length_drop]
 all_goals ((repeat' split) <;> omega)
open Abs
theorem sIsNumber.ret (x : Str) (hx : x.length ≤ 1048576) : sIsNumber.Ret [.str x] (.val (.bool (parseF x).2)) [] := by
 refine sIsNumber.ir.of rfl ?_
 repeat' first
  | (conv => whnf
     first | refine FinVal.keep ?_ | refine Final.mk rfl rfl | refine ACall.scalA _ _ (sParseInt.ret _ ?_) rfl ?_)
 all_goals exact hx
theorem sIsVar.ret (x : Str) (hx : x.length ≤ 1048576) : sIsVar.Ret [.str x] (.val (.bool (varF x))) [] := by
 refine sIsVar.ir.of rfl ?_
 repeat' first
  | (conv => whnf
     first | refine Need.mk (fun h => h) ?_ | refine Need.mk rfl ?_ | refine Need.fin ?_ | refine FinVal.keep ?_ | refine Final.mk ?_ rfl | refine AGCall.mkA _ _ (fun hg => sIsAtom.ret _ ?_) rfl ?_)
  | refine AV.bool_congr ?_
 ·simp; omega
 ·simp [varF]
def hasP (x p : Str) : Bool := decide ((p.length : Int) ≤ x.length) && x.take p.length == p
def cutP (x p : Str) : Str := if hasP x p then x.drop p.length else x
theorem slHasPrefix.ret (x p : Str) : slHasPrefix.Ret [.str x, .str p] (.val (.bool (hasP x p))) [] := by
 refine slHasPrefix.ir.of rfl ?_
 repeat' first
  | (conv => whnf
     first | refine Need.mk (fun h => h) ?_ | refine Need.mk rfl ?_ | refine Need.fin ?_ | refine FinVal.keep ?_ | refine Final.mk rfl rfl)
 all_goals simp [hasP]
theorem slCutPrefix.ret (x p : Str) : slCutPrefix.Ret [.str x, .str p] (.tup [.str (cutP x p), .val (.bool (hasP x p))]) [] := by
 refine slCutPrefix.ir.of rfl ?_
 repeat' first
  | (conv => whnf
     first | refine Need.mk ?_ ?_ | refine Fork.neg (fun _ => ?_) (fun _ => ?_) | refine FinVal.keep ?_ | refine Final.mk ?_ rfl | refine ACall.scalA _ _ (slHasPrefix.ret _ _) rfl ?_)
 ·rename_i h; simp [cutP, h]
 all_goals first
  | (rename_i h; simp only [hasP, Bool.and_eq_true, decide_eq_true_eq] at h; simp; omega)
  | (rename_i h; simp [cutP, h]; done)
  | (rename_i h; simp only [hasP, Bool.and_eq_true, decide_eq_true_eq] at h; omega)
theorem cutPrefix.ret (x p : Str) : cutPrefix.Ret [.str x, .str p] (.tup [.str (cutP x p), .val (.bool (hasP x p))]) [] := by
 refine cutPrefix.ir.of rfl ?_
 repeat' first
  | (conv => whnf
     first | refine FinVal.keep ?_ | refine Final.mk rfl rfl | refine ACall.scalA _ _ (slCutPrefix.ret _ _) rfl ?_)
theorem var_eq (x : Str) : (hasP x [63] && atomF (cutP x [63])) = varF x := by
 match x with
 | [] => rfl
 | [c] =>
  have : varF [c] = false := by simp [varF]
  rw [this]
  cases h : hasP [c] [63] with
  | false => rfl
  | true => simp [cutP, h, atomF]
 | c :: d :: x =>
  by_cases hc : c = 63
  ·subst hc
   have h : hasP (63 :: d :: x) [63] = true := by simp [hasP]; omega
   simp [h, cutP, varF]; omega
  ·have h : hasP (c :: d :: x) [63] = false := by simp [hasP, hc]
   have h2 : ¬ (c.toNat : Int) = 63 := fun e => hc (by
    have : c.toNat = 63 := by omega
    rw [← UInt8.ofNat_toNat (x := c), this]; rfl)
   simp [h, varF, h2]
theorem pIsVar.ret (x : Str) (hx : x.length ≤ 1048576) : pIsVar.Ret [.str x] (.val (.bool (varF x))) [] := by
 refine pIsVar.ir.of rfl ?_
 repeat' first
  | (conv => whnf
     first | refine Need.mk (fun h => h) ?_ | refine FinVal.keep ?_ | refine Final.mk ?_ rfl | refine AGCall.mkA _ _ (fun hg => pIsAtom.ret _ ?_) rfl ?_ | refine ACall.scalA _ _ (cutPrefix.ret _ _) rfl ?_)
  | refine AV.bool_congr ?_
 ·simp only [cutP]; split <;> simp <;> omega
 ·exact var_eq x
theorem sIsTerm.ret (x : Str) (hx : x.length ≤ 1048576) : sIsTerm.Ret [.str x] (.val (.bool (atomF x || varF x))) [] := by
 refine sIsTerm.ir.of rfl ?_
 repeat' first
  | (conv => whnf
     first | refine Need.mk (fun h => h) ?_ | refine FinVal.keep ?_ | refine Final.mk rfl rfl | refine ACall.scalA _ _ (sIsAtom.ret _ ?_) rfl ?_ | refine AGCall.mkA _ _ (fun hg => sIsVar.ret _ ?_) rfl ?_)
 all_goals exact hx
theorem pIsTerm.ret (x : Str) (hx : x.length ≤ 1048576) : pIsTerm.Ret [.str x] (.val (.bool (atomF x || varF x))) [] := by
 refine pIsTerm.ir.of rfl ?_
 repeat' first
  | (conv => whnf
     first | refine Need.mk (fun h => h) ?_ | refine FinVal.keep ?_ | refine Final.mk rfl rfl | refine ACall.scalA _ _ (pIsAtom.ret _ ?_) rfl ?_ | refine AGCall.mkA _ _ (fun hg => pIsVar.ret _ ?_) rfl ?_)
 all_goals exact hx
end Go.Proofs.YtoindmahilbalaaGreat
