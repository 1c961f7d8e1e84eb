/-
  What stands below some laws' proofs, part 3: contracts of functions, by an evaluator.
-/
import Derived.Test.YtfffboofmccfhaaGreatZA2
namespace Go.Proofs.YtfffboofmccfhaaGreat
open Abs
theorem sTexts.ret (l : List Str) (h : l.length ≤ 1048576) : sTexts.Ret [.list none (strs l)] (.list (some 0) (strs l)) [(9, 1, l.length)] := by
  refine sTexts.of rfl ?_
  repeat' first
    | contradiction | exact trivial
    | (conv => whnf
       first | refine Need.mk (fun h => h) ?_ | refine Need.mk rfl ?_ | refine Need.mk ⟨rfl, Nat.le_of_ble_eq_true rfl⟩ ?_ | refine Need.mk (Nat.le_of_ble_eq_true rfl) ?_ | refine Need.fin ?_ | refine Need.mk ?_ ?_ | refine Ix.strsF rfl ?_ | refine Ix.strs rfl ?_ ?_ | refine Cut.strs rfl ?_ ?_ | refine Ix.mapF (fun _ => rfl) ?_ | refine Ix.map (fun _ => rfl) ?_ ?_ | refine Cut.map (fun _ => rfl) ?_ ?_ | refine Fork.yes (by assumption) ?_ | refine Fork.no (by assumption) ?_ | refine Fork.decYes (by omega) ?_ | refine Fork.decNo (by omega) ?_ | refine Fork.dec (fun _ => ?_) (fun _ => ?_) | refine Fork.bne (fun _ => ?_) (fun _ => ?_) | refine Fork.beq (fun _ => ?_) (fun _ => ?_) | refine Fork.seq (fun _ => ?_) (fun _ => ?_) | refine Fork.sne (fun _ => ?_) (fun _ => ?_) | refine Fork.neg (fun _ => ?_) (fun _ => ?_) | refine Fork.mk (fun _ => ?_) (fun _ => ?_) | refine HAlt.mk ?_ ?_ | apply HJoin.mk3 | exact HEnd.mk rfl rfl rfl | refine HEnd.mk ?_ ?_ ?_ | refine Round.mk ?_ | refine NilQ.mk (fun b hb => ?_) | refine forceK_of ?_ | refine forceBx_of ?_ | refine unG_old ?_ | refine unG_gv ?_ | refine Lit.read rfl ?_ | refine FinVal.keep ?_ | refine FinAgg.keep ?_ | refine Final.mk rfl rfl | refine Final.mk ?_ rfl | refine Final.mk ?_ ?_ | refine FinalT.mk ?_ ?_ | refine FinalC.allA ?_)
    | refine AV.bool_congr ?_ | refine AV.int_congr ?_ | refine AV.str_congr ?_ | refine AV.list_congr ?_ | with_reducible rfl | refine fr1 ?_ | refine fr2 ?_ ?_
  · exact strs_sz l
  · simp; omega
  · rfl
  · simp
theorem slClone.ret (l : List Str) (h : l.length ≤ 1048576) : slClone.Ret [.list none (strs l)] (.list (some 0) (strs l)) [(9, 1, l.length)] := by
  refine slClone.of rfl ?_
  repeat' first
    | contradiction | exact trivial
    | (conv => whnf
       first | refine Need.mk (fun h => h) ?_ | refine Need.mk rfl ?_ | refine Need.mk ⟨rfl, Nat.le_of_ble_eq_true rfl⟩ ?_ | refine Need.mk (Nat.le_of_ble_eq_true rfl) ?_ | refine Need.fin ?_ | refine Need.mk ?_ ?_ | refine Ix.strsF rfl ?_ | refine Ix.strs rfl ?_ ?_ | refine Cut.strs rfl ?_ ?_ | refine Ix.mapF (fun _ => rfl) ?_ | refine Ix.map (fun _ => rfl) ?_ ?_ | refine Cut.map (fun _ => rfl) ?_ ?_ | refine Fork.yes (by assumption) ?_ | refine Fork.no (by assumption) ?_ | refine Fork.decYes (by omega) ?_ | refine Fork.decNo (by omega) ?_ | refine Fork.dec (fun _ => ?_) (fun _ => ?_) | refine Fork.bne (fun _ => ?_) (fun _ => ?_) | refine Fork.beq (fun _ => ?_) (fun _ => ?_) | refine Fork.seq (fun _ => ?_) (fun _ => ?_) | refine Fork.sne (fun _ => ?_) (fun _ => ?_) | refine Fork.neg (fun _ => ?_) (fun _ => ?_) | refine Fork.mk (fun _ => ?_) (fun _ => ?_) | refine HAlt.mk ?_ ?_ | apply HJoin.mk3 | exact HEnd.mk rfl rfl rfl | refine HEnd.mk ?_ ?_ ?_ | refine Round.mk ?_ | refine NilQ.mk (fun b hb => ?_) | refine forceK_of ?_ | refine forceBx_of ?_ | refine unG_old ?_ | refine unG_gv ?_ | refine Lit.read rfl ?_ | refine FinVal.nil 9 1 rfl ?_ | refine FinVal.keep ?_ | refine FinAgg.keep ?_ | refine Final.mk rfl rfl | refine Final.mk ?_ rfl | refine Final.mk ?_ ?_ | refine FinalT.mk ?_ ?_ | refine FinalC.allA ?_)
    | refine AV.bool_congr ?_ | refine AV.int_congr ?_ | refine AV.str_congr ?_ | refine AV.list_congr ?_ | with_reducible rfl | refine fr1 ?_ | refine fr2 ?_ ?_
  · rename_i h1
    have hl : l = [] := List.eq_nil_of_length_eq_zero (by rw [length_strs] at hb; exact hb (by revert h1; cases b <;> simp))
    subst hl; rfl
  · rename_i h1
    have hl : l = [] := List.eq_nil_of_length_eq_zero (by rw [length_strs] at hb; exact hb (by revert h1; cases b <;> simp))
    subst hl; rfl
  · exact strs_sz l
  · simp; omega
  · rfl
  · simp
theorem sCopy.ret (f : Fct) (h : tFct.size f ≤ 1048576) : sCopy.Ret [.agg (oldL (tFct.q f))] (.agg (tFct.tk f 0)) (tFct.fr f) := by
  refine sCopy.of rfl ?_
  rw [tFct_size, tStrs_size] at h
  repeat' first
    | contradiction | exact trivial
    | (conv => whnf
       first | refine Need.mk (fun h => h) ?_ | refine Need.mk rfl ?_ | refine Need.mk ⟨rfl, Nat.le_of_ble_eq_true rfl⟩ ?_ | refine Need.mk (Nat.le_of_ble_eq_true rfl) ?_ | refine Need.fin ?_ | refine Need.mk ?_ ?_ | refine Ix.strsF rfl ?_ | refine Ix.strs rfl ?_ ?_ | refine Cut.strs rfl ?_ ?_ | refine Ix.mapF (fun _ => rfl) ?_ | refine Ix.map (fun _ => rfl) ?_ ?_ | refine Cut.map (fun _ => rfl) ?_ ?_ | refine Fork.yes (by assumption) ?_ | refine Fork.no (by assumption) ?_ | refine Fork.decYes (by omega) ?_ | refine Fork.decNo (by omega) ?_ | refine Fork.dec (fun _ => ?_) (fun _ => ?_) | refine Fork.bne (fun _ => ?_) (fun _ => ?_) | refine Fork.beq (fun _ => ?_) (fun _ => ?_) | refine Fork.seq (fun _ => ?_) (fun _ => ?_) | refine Fork.sne (fun _ => ?_) (fun _ => ?_) | refine Fork.neg (fun _ => ?_) (fun _ => ?_) | refine Fork.mk (fun _ => ?_) (fun _ => ?_) | refine HAlt.mk ?_ ?_ | apply HJoin.mk3 | exact HEnd.mk rfl rfl rfl | refine HEnd.mk ?_ ?_ ?_ | refine Round.mk ?_ | refine NilQ.mk (fun b hb => ?_) | refine forceK_of ?_ | refine forceBx_of ?_ | refine unG_old ?_ | refine unG_gv ?_ | refine Lit.read rfl ?_ | refine FinVal.keep ?_ | refine FinAgg.keep ?_ | refine Final.mk rfl rfl | refine Final.mk ?_ rfl | refine Final.mk ?_ ?_ | refine FinalT.mk ?_ ?_ | refine FinalC.allA ?_ | refine ACall.mkStrs _ _ (sTexts.ret _ ?_) (by repeat' first | exact SeesL.nil | refine SeesL.cons ?_ ?_ | exact SeesB.of0 (Sees0.val _) | exact SeesB.of0 (Sees0.str _) | exact SeesB.of0 (Sees0.olds _ _) | exact SeesB.of0 (Sees0.old _) | exact SeesB.of0 (Sees0.oldagg _) | exact SeesB.of0 Sees0.nil | exact Sees0.val _ | exact Sees0.str _ | exact Sees0.olds _ _ | exact Sees0.old _ | exact Sees0.oldagg _ | exact Sees0.nil | exact SeesB.of0 (Sees0.any _) | assumption | exact sees_gv _ _ _ (by assumption) (by first | assumption | exact BoxIn.last _ _ | exact BoxIn.more (BoxIn.last _ _) _) | refine SeesB.agg ?_ | refine Sees0.agg ?_ | exact SeesB.of0 (Sees0.clo SeesL.nil SeesL.nil) | exact Sees0.clo SeesL.nil SeesL.nil | exact SeesB.of0 (Sees0.list rfl) | exact Sees0.list rfl) ?_)
    | refine AV.bool_congr ?_ | refine AV.int_congr ?_ | refine AV.str_congr ?_ | refine AV.list_congr ?_ | with_reducible rfl | refine fr1 ?_ | refine fr2 ?_ ?_
  omega
theorem pcopyFact.ret (f : Fct) (h : tFct.size f ≤ 1048576) : pcopyFact.Ret [.agg (oldL (tFct.q f))] (.agg (tFct.tk f 0)) (tFct.fr f) := by
  refine pcopyFact.of rfl ?_
  rw [tFct_size, tStrs_size] at h
  repeat' first
    | contradiction | exact trivial
    | (conv => whnf
       first | refine Need.mk (fun h => h) ?_ | refine Need.mk rfl ?_ | refine Need.mk ⟨rfl, Nat.le_of_ble_eq_true rfl⟩ ?_ | refine Need.mk (Nat.le_of_ble_eq_true rfl) ?_ | refine Need.fin ?_ | refine Need.mk ?_ ?_ | refine Ix.strsF rfl ?_ | refine Ix.strs rfl ?_ ?_ | refine Cut.strs rfl ?_ ?_ | refine Ix.mapF (fun _ => rfl) ?_ | refine Ix.map (fun _ => rfl) ?_ ?_ | refine Cut.map (fun _ => rfl) ?_ ?_ | refine Fork.yes (by assumption) ?_ | refine Fork.no (by assumption) ?_ | refine Fork.decYes (by omega) ?_ | refine Fork.decNo (by omega) ?_ | refine Fork.dec (fun _ => ?_) (fun _ => ?_) | refine Fork.bne (fun _ => ?_) (fun _ => ?_) | refine Fork.beq (fun _ => ?_) (fun _ => ?_) | refine Fork.seq (fun _ => ?_) (fun _ => ?_) | refine Fork.sne (fun _ => ?_) (fun _ => ?_) | refine Fork.neg (fun _ => ?_) (fun _ => ?_) | refine Fork.mk (fun _ => ?_) (fun _ => ?_) | refine HAlt.mk ?_ ?_ | apply HJoin.mk3 | exact HEnd.mk rfl rfl rfl | refine HEnd.mk ?_ ?_ ?_ | refine Round.mk ?_ | refine NilQ.mk (fun b hb => ?_) | refine forceK_of ?_ | refine forceBx_of ?_ | refine unG_old ?_ | refine unG_gv ?_ | refine Lit.read rfl ?_ | refine FinVal.keep ?_ | refine FinAgg.keep ?_ | refine Final.mk rfl rfl | refine Final.mk ?_ rfl | refine Final.mk ?_ ?_ | refine FinalT.mk ?_ ?_ | refine FinalC.allA ?_ | refine ACall.mkStrs _ _ (slClone.ret _ ?_) (by repeat' first | exact SeesL.nil | refine SeesL.cons ?_ ?_ | exact SeesB.of0 (Sees0.val _) | exact SeesB.of0 (Sees0.str _) | exact SeesB.of0 (Sees0.olds _ _) | exact SeesB.of0 (Sees0.old _) | exact SeesB.of0 (Sees0.oldagg _) | exact SeesB.of0 Sees0.nil | exact Sees0.val _ | exact Sees0.str _ | exact Sees0.olds _ _ | exact Sees0.old _ | exact Sees0.oldagg _ | exact Sees0.nil | exact SeesB.of0 (Sees0.any _) | assumption | exact sees_gv _ _ _ (by assumption) (by first | assumption | exact BoxIn.last _ _ | exact BoxIn.more (BoxIn.last _ _) _) | refine SeesB.agg ?_ | refine Sees0.agg ?_ | exact SeesB.of0 (Sees0.clo SeesL.nil SeesL.nil) | exact Sees0.clo SeesL.nil SeesL.nil | exact SeesB.of0 (Sees0.list rfl) | exact Sees0.list rfl) ?_)
    | refine AV.bool_congr ?_ | refine AV.int_congr ?_ | refine AV.str_congr ?_ | refine AV.list_congr ?_ | with_reducible rfl | refine fr1 ?_ | refine fr2 ?_ ?_
  omega
/-- a list of facts that is built by appending: its own slice first, then the facts' -/
def accFr (l : List Fct) : Fr := (58, 2, l.length) :: frs tFct l
theorem accFr_snoc (l : List Fct) (f : Fct) : (accFr l ++ tFct.fr f).set 0 (58, 2, l.length + 1) = accFr (l ++ [f]) := by
  simp [accFr, frs]
theorem acc_snoc (l : List Fct) (f : Fct) : tks tFct l 1 ++ [tFct.tk f (accFr l).length] = tks tFct (l ++ [f]) 1 := by
  rw [tks_append]
  congr 1
  show _ = [tFct.tk f _]
  rw [accFr, List.length_cons, Nat.add_comm]
theorem acc_own {mo : Bool} {P : Program} {f : Nat} {args : List AV} {l : List Fct} (h : Ret mo P f args (.list (some 0) (tks tFct l 1)) (accFr l)) : Own mo P f args (.l 58 2 (l.map tFct.q)) := by
  obtain ⟨ts, h1, p1⟩ := tks_own tFct (accFr l) l 1 (fun i x hi => by rw [accFr, Nat.add_comm, List.getElem?_cons_succ]; exact hi)
  have h2 : OwnA (accFr l) [.l 58 2 (l.map tFct.q)] [.list (some 0) (tks tFct l 1)] (0 :: ts ++ []) :=
    .l 58 2 _ 0 _ (by simp [accFr]) (by rw [length_tks, List.length_map]) (fun e he => by obtain ⟨a, _, rfl⟩ := List.mem_map.1 he; exact tFct.hq a) (tks_sz tFct l 1) h1 .nil
  refine h.own _ h2 ?_
  rw [List.append_nil]
  refine List.nodup_cons.2 ⟨fun hm => ?_, p1.symm.nodup (List.nodup_range' _)⟩
  have := (p1.mem_iff).1 hm
  rw [List.mem_range'_1] at this
  omega
end Go.Proofs.YtfffboofmccfhaaGreat
namespace Go.Proofs
open Go.Shelf
def Tryz.lays190_ren : Go.Shelf.Ren := ⟨fun | 190 => 85 | 125 => 90 | 258 => 89 | 128 => 100 | 129 => 101 | 302 => 91 | 303 => 92 | 304 => 93 | 305 => 94 | 306 => 95 | 307 => 96 | 308 => 97 | 309 => 98 | 310 => 99 | 333 => 102 | 329 => 103 | 330 => 104 | 334 => 105 | 335 => 106 | 336 => 107 | 344 => 108 | n => n, fun | 31 => 22 | 9 => 9 | 3 => 3 | 46 => 105 | 0 => 0 | 51 => 114 | 53 => 116 | 4 => 4 | 183 => 108 | 182 => 107 | 131 => 83 | 5 => 5 | 218 => 117 | 222 => 121 | 228 => 123 | 229 => 124 | n => n, fun | n => n⟩
theorem Tryz.lays190 : Go.Proofs.Lays.n190 Tryz.prog Tryz.lays190_ren := {
  mixed := by kernel_rfl
  f125 := Tryz.func90.trans (congrArg some (by kernel_rfl))
  f128 := Tryz.func100.trans (congrArg some (by kernel_rfl))
  f129 := Tryz.func101.trans (congrArg some (by kernel_rfl))
  f190 := Tryz.func85.trans (congrArg some (by kernel_rfl))
  f258 := Tryz.func89.trans (congrArg some (by kernel_rfl))
  f302 := Tryz.func91.trans (congrArg some (by kernel_rfl))
  f303 := Tryz.func92.trans (congrArg some (by kernel_rfl))
  f304 := Tryz.func93.trans (congrArg some (by kernel_rfl))
  f305 := Tryz.func94.trans (congrArg some (by kernel_rfl))
  f306 := Tryz.func95.trans (congrArg some (by kernel_rfl))
  f307 := Tryz.func96.trans (congrArg some (by kernel_rfl))
  f308 := Tryz.func97.trans (congrArg some (by kernel_rfl))
  f309 := Tryz.func98.trans (congrArg some (by kernel_rfl))
  f310 := Tryz.func99.trans (congrArg some (by kernel_rfl))
  f329 := Tryz.func103.trans (congrArg some (by kernel_rfl))
  f330 := Tryz.func104.trans (congrArg some (by kernel_rfl))
  f333 := Tryz.func102.trans (congrArg some (by kernel_rfl))
  f334 := Tryz.func105.trans (congrArg some (by kernel_rfl))
  f335 := Tryz.func106.trans (congrArg some (by kernel_rfl))
  f336 := Tryz.func107.trans (congrArg some (by kernel_rfl))
  f344 := Tryz.func108.trans (congrArg some (by kernel_rfl))
  t0 := Tryz.underlying0
  a0 := Tryz.isAgg0
  z0 := Tryz.sizeOf0
  v0 := Tryz.zeroValue0
  t3 := Tryz.underlying3
  a3 := Tryz.isAgg3
  z3 := Tryz.sizeOf3
  v3 := Tryz.zeroValue3
  t4 := Tryz.underlying4
  a4 := Tryz.isAgg4
  z4 := Tryz.sizeOf4
  v4 := Tryz.zeroValue4
  t5 := Tryz.underlying5
  a5 := Tryz.isAgg5
  z5 := Tryz.sizeOf5
  v5 := Tryz.zeroValue5
  t9 := Tryz.underlying9
  a9 := Tryz.isAgg9
  z9 := Tryz.sizeOf9
  v9 := Tryz.zeroValue9
  t31 := Tryz.underlying22
  a31 := Tryz.isAgg22
  z31 := Tryz.sizeOf22
  v31 := Tryz.zeroValue22
  t46 := Tryz.underlying105
  a46 := Tryz.isAgg105
  z46 := Tryz.sizeOf105
  v46 := Tryz.zeroValue105
  t51 := Tryz.underlying114
  a51 := Tryz.isAgg114
  z51 := Tryz.sizeOf114
  v51 := Tryz.zeroValue114
  t53 := Tryz.underlying116
  a53 := Tryz.isAgg116
  z53 := Tryz.sizeOf116
  v53 := Tryz.zeroValue116
  t131 := Tryz.underlying83
  a131 := Tryz.isAgg83
  z131 := Tryz.sizeOf83
  v131 := Tryz.zeroValue83
  t182 := Tryz.underlying107
  a182 := Tryz.isAgg107
  z182 := Tryz.sizeOf107
  v182 := Tryz.zeroValue107
  t183 := Tryz.underlying108
  a183 := Tryz.isAgg108
  z183 := Tryz.sizeOf108
  v183 := Tryz.zeroValue108
  t218 := Tryz.underlying117
  a218 := Tryz.isAgg117
  z218 := Tryz.sizeOf117
  v218 := Tryz.zeroValue117
  t222 := Tryz.underlying121
  a222 := Tryz.isAgg121
  z222 := Tryz.sizeOf121
  v222 := Tryz.zeroValue121
  t228 := Tryz.underlying123
  a228 := Tryz.isAgg123
  z228 := Tryz.sizeOf123
  v228 := Tryz.zeroValue123
  t229 := Tryz.underlying124
  a229 := Tryz.isAgg124
  z229 := Tryz.sizeOf124
  v229 := Tryz.zeroValue124 }
open Go.Sort Go.RowKit in
theorem Tryz.slices_Sort_string (blk off cap : Nat) (ss : List (List UInt8)) (w : World) (hH : Holds encStr w blk off ss.toArray) (hblk : blk < w.heap.size) (hsz : ss.length < 4611686018427387904) :
    Calls Tryz.prog 85 #[.slice (some ⟨blk, off, none⟩) ss.length cap] w fun e w' =>
      e = .returned (.tuple #[]) ∧ ∃ n os, w' = grow (putRow encStr (Sort.ahead w n) blk off (ss.mergeSort fun x y => decide (x ≤ y)).toArray) os := Any.slices_Sort_string Tryz.lays190 blk off cap ss w hH hblk hsz
open Go.RowKit Go.Sort in
theorem Tryz.slices_Sort_string_none (p : Option Addr) (cap : Nat) (w : World) :
    Calls Tryz.prog 85 #[.slice p 0 cap] w fun e w' => e = .returned (.tuple #[]) ∧ w' = w := Any.slices_Sort_string_none Tryz.lays190 p cap w
end Go.Proofs
namespace Go.Proofs.YtfffboofmccfhaaGreat
open Abs Go.RowKit Go.Sort
/-- ascending, byte by byte -/
def srt (ss : List Str) : List Str := ss.mergeSort fun x y => decide (x ≤ y)
end Go.Proofs.YtfffboofmccfhaaGreat
namespace Go.Proofs.YtfffboofmccfhaaGreat
open Abs
structure STO {α : Type} (lt : α → α → Bool) : Prop where
  irrefl : ∀ x, lt x x = false
  trans : ∀ x y z, lt x y = true → lt y z = true → lt x z = true
  tri : ∀ x y, lt x y = false → lt y x = false → x = y
section
variable {α : Type} {lt : α → α → Bool}
theorem STO.asymm (h : STO lt) {x y : α} (hxy : lt x y = true) : lt y x = false := by
  cases hyx : lt y x with
  | false => rfl
  | true => have := h.trans x y x hxy hyx; rw [h.irrefl] at this; cases this
def Asc (lt : α → α → Bool) (l : List α) : Prop := l.Pairwise fun x y => lt x y = true
theorem Asc.nodup (h : STO lt) {l : List α} (hl : Asc lt l) : l.Nodup := hl.imp fun {x y} hxy e => by subst e; rw [h.irrefl] at hxy; cases hxy
variable [Inhabited α] [DecidableEq α]
end
def blt (a b : Str) : Bool := Op.bytesLess a b
theorem blt_eq : ∀ a b : Str, blt a b = decide (a < b)
  | _, [] => by simp [blt, Op.bytesLess]
  | [], _ :: _ => by simp [blt, Op.bytesLess]
  | a :: x, b :: y => by
    have ih := blt_eq x y
    rw [blt] at ih ⊢
    rw [Op.bytesLess, ih]
    rw [Bool.eq_iff_iff]
    simp only [Bool.or_eq_true, Bool.and_eq_true, decide_eq_true_eq, beq_iff_eq]
    rw [List.cons_lt_cons_iff]
theorem blt_sto : STO blt where
  irrefl x := by rw [blt_eq]; simp [List.lt_irrefl]
  trans x y z h1 h2 := by rw [blt_eq, decide_eq_true_eq] at *; exact List.lt_trans h1 h2
  tri x y h1 h2 := by
    rw [blt_eq, decide_eq_false_iff_not] at *
    exact List.le_antisymm (List.not_lt.1 h2) (List.not_lt.1 h1)
end Go.Proofs.YtfffboofmccfhaaGreat
namespace Go.Proofs.YtfffboofmccfhaaGreat
open Abs
/-- the variables among some texts -/
def vs (l : List Str) : List Str := l.filter varF
end Go.Proofs.YtfffboofmccfhaaGreat
namespace Go.Proofs
open Go.RowKit Go.Maps Go.Sort Go.Shelf
def Tryz.keys79_ren : Go.Shelf.Ren := ⟨fun | 7 => 79 | 10 => 86 | n => n, fun | 23 => 88 | 26 => 9 | 3 => 9 | 28 => 98 | 0 => 0 | 27 => 97 | 33 => 65 | 4 => 4 | n => n, fun | n => n⟩
theorem Tryz.keys79 : Go.Proofs.SlLaysZ.n7 Tryz.prog Tryz.keys79_ren := {
  mixed := by kernel_rfl
  f7 := ⟨Tryz.f79.name, by decide, Tryz.func79.trans (congrArg some (by kernel_rfl))⟩
  f10 := ⟨Tryz.f86.name, by decide, Tryz.func86.trans (congrArg some (by kernel_rfl))⟩
  t0 := Tryz.underlying0
  a0 := Tryz.isAgg0
  z0 := Tryz.sizeOf0
  v0 := Tryz.zeroValue0
  t4 := Tryz.underlying4
  a4 := Tryz.isAgg4
  z4 := Tryz.sizeOf4
  v4 := Tryz.zeroValue4
  t23 := Tryz.underlying88
  a23 := Tryz.isAgg88
  z23 := Tryz.sizeOf88
  v23 := Tryz.zeroValue88
  t26 := Tryz.underlying9
  a26 := Tryz.isAgg9
  z26 := Tryz.sizeOf9
  v26 := Tryz.zeroValue9
  t27 := Tryz.underlying97
  a27 := Tryz.isAgg97
  z27 := Tryz.sizeOf97
  v27 := Tryz.zeroValue97
  t28 := Tryz.underlying98
  a28 := Tryz.isAgg98
  z28 := Tryz.sizeOf98
  v28 := Tryz.zeroValue98
  t33 := Tryz.underlying65
  a33 := Tryz.isAgg65
  z33 := Tryz.sizeOf65
  v33 := Tryz.zeroValue65 }
def Tryz.sorted78_ren : Go.Shelf.Ren := ⟨fun | 6 => 78 | 8 => 84 | 9 => 85 | 11 => 88 | 13 => 90 | 12 => 89 | 23 => 100 | 24 => 101 | 14 => 91 | 15 => 92 | 16 => 93 | 17 => 94 | 18 => 95 | 19 => 96 | 20 => 97 | 21 => 98 | 22 => 99 | 25 => 102 | 26 => 103 | 27 => 104 | 28 => 105 | 29 => 106 | 30 => 107 | 31 => 108 | n => n, fun | 26 => 9 | 28 => 98 | 24 => 22 | 0 => 0 | 3 => 3 | 37 => 105 | 48 => 114 | 50 => 116 | 4 => 4 | 40 => 108 | 39 => 107 | 45 => 83 | 5 => 5 | 9 => 9 | 51 => 117 | 55 => 121 | 57 => 123 | 58 => 124 | 33 => 65 | n => n, fun | n => n⟩
theorem Tryz.sorted78 : Go.Proofs.SlLaysZ.n6 Tryz.prog Tryz.sorted78_ren := {
  mixed := by kernel_rfl
  f6 := ⟨Tryz.f78.name, by decide, Tryz.func78.trans (congrArg some (by kernel_rfl))⟩
  f8 := ⟨Tryz.f84.name, by decide, Tryz.func84.trans (congrArg some (by kernel_rfl))⟩
  f11 := ⟨Tryz.f88.name, by decide, Tryz.func88.trans (congrArg some (by kernel_rfl))⟩
  t0 := Tryz.underlying0
  a0 := Tryz.isAgg0
  z0 := Tryz.sizeOf0
  v0 := Tryz.zeroValue0
  t24 := Tryz.underlying22
  a24 := Tryz.isAgg22
  z24 := Tryz.sizeOf22
  v24 := Tryz.zeroValue22
  t26 := Tryz.underlying9
  a26 := Tryz.isAgg9
  z26 := Tryz.sizeOf9
  v26 := Tryz.zeroValue9
  t28 := Tryz.underlying98
  a28 := Tryz.isAgg98
  z28 := Tryz.sizeOf98
  v28 := Tryz.zeroValue98
  i26 := by kernel_rfl }
def Tryz.sort85_ren : Go.Shelf.Ren := ⟨fun | 6 => 85 | 8 => 90 | 9 => 89 | 19 => 100 | 20 => 101 | 21 => 91 | 22 => 92 | 23 => 93 | 24 => 94 | 25 => 95 | 26 => 96 | 27 => 97 | 28 => 98 | 29 => 99 | 36 => 102 | 31 => 103 | 32 => 104 | 37 => 105 | 38 => 106 | 39 => 107 | 41 => 108 | n => n, fun | 27 => 22 | 29 => 9 | 3 => 3 | 32 => 105 | 26 => 22 | 0 => 0 | 44 => 114 | 46 => 116 | 4 => 4 | 36 => 108 | 35 => 107 | 41 => 83 | 5 => 5 | 9 => 9 | 53 => 117 | 57 => 121 | 63 => 123 | 64 => 124 | n => n, fun | n => n⟩
theorem Tryz.sort85 : Go.Proofs.SlLaysM.n6 Tryz.prog Tryz.sort85_ren := {
  mixed := by kernel_rfl
  f6 := ⟨Tryz.f85.name, by decide, Tryz.func85.trans (congrArg some (by kernel_rfl))⟩
  f8 := Tryz.func90.trans (congrArg some (by kernel_rfl))
  f9 := ⟨Tryz.f89.name, by decide, Tryz.func89.trans (congrArg some (by kernel_rfl))⟩
  f19 := Tryz.func100.trans (congrArg some (by kernel_rfl))
  f20 := Tryz.func101.trans (congrArg some (by kernel_rfl))
  f21 := ⟨Tryz.f91.name, by decide, Tryz.func91.trans (congrArg some (by kernel_rfl))⟩
  f22 := ⟨Tryz.f92.name, by decide, Tryz.func92.trans (congrArg some (by kernel_rfl))⟩
  f23 := ⟨Tryz.f93.name, by decide, Tryz.func93.trans (congrArg some (by kernel_rfl))⟩
  f24 := ⟨Tryz.f94.name, by decide, Tryz.func94.trans (congrArg some (by kernel_rfl))⟩
  f25 := ⟨Tryz.f95.name, by decide, Tryz.func95.trans (congrArg some (by kernel_rfl))⟩
  f26 := ⟨Tryz.f96.name, by decide, Tryz.func96.trans (congrArg some (by kernel_rfl))⟩
  f27 := ⟨Tryz.f97.name, by decide, Tryz.func97.trans (congrArg some (by kernel_rfl))⟩
  f28 := ⟨Tryz.f98.name, by decide, Tryz.func98.trans (congrArg some (by kernel_rfl))⟩
  f29 := ⟨Tryz.f99.name, by decide, Tryz.func99.trans (congrArg some (by kernel_rfl))⟩
  f31 := Tryz.func103.trans (congrArg some (by kernel_rfl))
  f32 := Tryz.func104.trans (congrArg some (by kernel_rfl))
  f36 := ⟨Tryz.f102.name, by decide, Tryz.func102.trans (congrArg some (by kernel_rfl))⟩
  f37 := ⟨Tryz.f105.name, by decide, Tryz.func105.trans (congrArg some (by kernel_rfl))⟩
  f38 := ⟨Tryz.f106.name, by decide, Tryz.func106.trans (congrArg some (by kernel_rfl))⟩
  f39 := ⟨Tryz.f107.name, by decide, Tryz.func107.trans (congrArg some (by kernel_rfl))⟩
  f41 := ⟨Tryz.f108.name, by decide, Tryz.func108.trans (congrArg some (by kernel_rfl))⟩
  t0 := Tryz.underlying0
  a0 := Tryz.isAgg0
  z0 := Tryz.sizeOf0
  v0 := Tryz.zeroValue0
  t3 := Tryz.underlying3
  a3 := Tryz.isAgg3
  z3 := Tryz.sizeOf3
  v3 := Tryz.zeroValue3
  t4 := Tryz.underlying4
  a4 := Tryz.isAgg4
  z4 := Tryz.sizeOf4
  v4 := Tryz.zeroValue4
  t5 := Tryz.underlying5
  a5 := Tryz.isAgg5
  z5 := Tryz.sizeOf5
  v5 := Tryz.zeroValue5
  t9 := Tryz.underlying9
  a9 := Tryz.isAgg9
  z9 := Tryz.sizeOf9
  v9 := Tryz.zeroValue9
  t26 := Tryz.underlying22
  a26 := Tryz.isAgg22
  z26 := Tryz.sizeOf22
  v26 := Tryz.zeroValue22
  t27 := Tryz.underlying22
  a27 := Tryz.isAgg22
  z27 := Tryz.sizeOf22
  v27 := Tryz.zeroValue22
  t29 := Tryz.underlying9
  a29 := Tryz.isAgg9
  z29 := Tryz.sizeOf9
  v29 := Tryz.zeroValue9
  t32 := Tryz.underlying105
  a32 := Tryz.isAgg105
  z32 := Tryz.sizeOf105
  v32 := Tryz.zeroValue105
  t35 := Tryz.underlying107
  a35 := Tryz.isAgg107
  z35 := Tryz.sizeOf107
  v35 := Tryz.zeroValue107
  t36 := Tryz.underlying108
  a36 := Tryz.isAgg108
  z36 := Tryz.sizeOf108
  v36 := Tryz.zeroValue108
  t41 := Tryz.underlying83
  a41 := Tryz.isAgg83
  z41 := Tryz.sizeOf83
  v41 := Tryz.zeroValue83
  t44 := Tryz.underlying114
  a44 := Tryz.isAgg114
  z44 := Tryz.sizeOf114
  v44 := Tryz.zeroValue114
  t46 := Tryz.underlying116
  a46 := Tryz.isAgg116
  z46 := Tryz.sizeOf116
  v46 := Tryz.zeroValue116
  t53 := Tryz.underlying117
  a53 := Tryz.isAgg117
  z53 := Tryz.sizeOf117
  v53 := Tryz.zeroValue117
  t57 := Tryz.underlying121
  a57 := Tryz.isAgg121
  z57 := Tryz.sizeOf121
  v57 := Tryz.zeroValue121
  t63 := Tryz.underlying123
  a63 := Tryz.isAgg123
  z63 := Tryz.sizeOf123
  v63 := Tryz.zeroValue123
  t64 := Tryz.underlying124
  a64 := Tryz.isAgg124
  z64 := Tryz.sizeOf124
  v64 := Tryz.zeroValue124 }
theorem Tryz.sorts78 (m : Nat) : AnyZ.SortsIn Tryz.prog Tryz.sorted78_ren Fence.wide m :=
  ⟨fun blk off cap ss W hH hblk hsz => callsIn_wide.2 (AnyM.slices_Sort_string Tryz.sort85 blk off cap ss W hH hblk hsz),
   fun p cap W => callsIn_wide.2 (AnyM.slices_Sort_string_none Tryz.sort85 p cap W)⟩
set_option maxHeartbeats 1000000 in
theorem Tryz.sortedKeysAt {H : Type} (c b nn : Nat) (D0 : DataW H) (R : Value → Option (DataW H × List MemPlace)) (w : World) (hcs : c < w.heap.size) (hc : w.cell? ⟨c, 0, none⟩ = some (.map (some b))) (hown : w.ownsMap Tryz.prog 9 R b nn D0) (hmax : Maps.size D0 ≤ maxLen) (hbytes : Maps.size D0 * 16 ≤ 140737488355328) :
    CallsIn Fence.wide 5 Tryz.prog 78 #[.func (.func 86) #[] #[.pointer (some ⟨c, 0, none⟩)]] w fun e w' => ∃ (v : Value) (ss : List (List UInt8)), e = .returned v ∧ ss.Perm (strKeys D0) ∧
      w'.ownsRow w.heap.size 9 1 v ss.length ((ss.mergeSort (fun x y => decide (x ≤ y))).map encStr) ∧ (v = .slice none 0 0 ↔ ss = []) ∧ Below w.heap.size w w' := by
  have hseq : SeqGives Fence.wide 2 Tryz.prog 86 #[.pointer (some ⟨c, 0, none⟩)] encStr (fun ss => ss.Perm (strKeys D0)) (Maps.size D0) w :=
    AnyZ.keys_gives (ρ := Tryz.keys79_ren) { Tryz.keys79 with } Fence.wide _ trivial rfl (by omega) c b nn D0 w hcs hc hown
  exact AnyZ.sorted_in Tryz.sorted78 Fence.wide 5 trivial trivial trivial trivial rfl (by omega) (Tryz.sorts78 _) (enters_of Tryz.func85 (by kernel_rfl) rfl) 86 #[.pointer (some ⟨c, 0, none⟩)] trivial (enters_of Tryz.func86 (by kernel_rfl) rfl) _ _ hmax hbytes _ hseq
end Go.Proofs
namespace Go.Proofs.YtfffboofmccfhaaGreat
namespace Abs
theorem bx_cons {x y : ABox} {l l' : List ABox} (h : x = y) (h' : l = l') : x :: l = y :: l' := by rw [h, h']
theorem bx_map {m m' : List (Str × Str)} (h : m = m') : ABox.map m = ABox.map m' := by rw [h]
theorem FinalC.all {Φ : AV → List ABox → Fr → Prop} {r : AV} {b : List ABox} {f : Fr} (h : Lends b b) (hk : Φ r b f) : FinalC Φ r b f := ⟨b, h, hk⟩
theorem FinalC.allA {Φ : AV → List ABox → Fr → Prop} {r : AV} {b : List ABox} {f : Fr} (hk : Φ r b f) (h : Lends b b := by repeat' first | exact Lends.nil | refine Lends.map _ ?_ | refine Lends.lend _ _ (by first | exact hx.1 | exact hy.1 | exact noTk_old _ | (intro c hc; rw [List.mem_singleton.1 hc]; rfl) | (intro c hc; cases hc; done)) ?_) : FinalC Φ r b f := ⟨b, h, hk⟩
theorem Lent.weak {mo : Bool} {P : Program} {f : Nat} {b0 : List ABox} {args : List AV} {Φ : AV → List ABox → Fr → Prop} (h : Lent true P f b0 args Φ) : Lent mo P f b0 args Φ := by
  rw [Lent_eq] at *
  exact ⟨h.1, fun w F vs box0 a b c d e g => (h.2 w F vs box0 a b c d e g).mono (by rintro en w' ⟨v, F', box1, tok, frs, r, b1, h1, h2, h3, h4⟩; exact ⟨v, F', box1, tok, frs, r, b1, h1, h2, h3.weak, h4⟩)⟩
theorem ACall.lentE {C : Con} {f : Nat} {vs : List AV} {b : List ABox} {fr : Fr} {k : AV → List ABox → Fr → Prop} (b0 : List ABox) (ys : List AV) (r : AV) (b1 : List ABox) (f1 : Fr) (h : C.lent f b0 ys (fun x y z => x = r ∧ y = b1 ∧ z = f1)) (hb : Lends b b0) (hv : SeesL SeesC vs ys)
    (hk : k (shiftK fr.length r) (merge b b0 b1) (fr ++ f1)) : ACall C true f vs b fr k :=
  .lent rfl b0 ys _ h hb hv (by rintro _ _ _ ⟨rfl, rfl, rfl⟩; exact hk)
theorem ACall.lentS {C : Con} {f : Nat} {vs : List AV} {b : List ABox} {fr : Fr} {k : AV → List ABox → Fr → Prop} (b0 : List ABox) (ys : List AV) (l : List Str) (b1 : List ABox) (f1 : Fr) (h : C.lent f b0 ys (fun x y z => x = .list (some 0) (strs l) ∧ y = b1 ∧ z = f1)) (hb : Lends b b0) (hv : SeesL SeesC vs ys)
    (hk : k (.list (some fr.length) (strs l)) (merge b b0 b1) (fr ++ f1)) : ACall C true f vs b fr k := by
  refine .lent rfl b0 ys _ h hb hv ?_
  rintro _ _ _ ⟨rfl, rfl, rfl⟩
  have e : shiftK fr.length (.list (some 0) (strs l)) = .list (some fr.length) (strs l) := by
    cases fr.length with
    | zero => rfl
    | succ n =>
      show AV.list (some (0 + (n + 1))) (mapTLL _ (strs l)) = _
      rw [strs, mapTLL_old, Nat.zero_add]
  rw [e]; exact hk
section
variable {mo : Bool} {P : Program}
theorem own_post {B : Nat} {w' : World} {F' : Nat → Nat} {tok : List (Option Nat)} {box : List BId} {frs : Fr} {x : Tr} {r : AV} {v : Value} {ts : List Nat} (hrep : Rep B w' F' tok frs box r v) (ho : OwnA frs [x] [r] ts) (hn : ts.Nodup)
    (htin : ∀ (k b : Nat), tok[k]? = some (some b) → B ≤ b ∧ b < w'.heap.size) (htinj : ∀ (k l b : Nat), tok[k]? = some (some b) → tok[l]? = some (some b) → k = l) : ∃ ds, OwnL w' [x] [v] ds ∧ ds.Nodup ∧ ∀ d ∈ ds, B ≤ d ∧ d < w'.heap.size := by
  have hget : ∀ d, d ∈ ts.filterMap (fun k => (tok[k]?).join) → ∃ k ∈ ts, tok[k]? = some (some d) := fun d hd => by
    obtain ⟨k, hk, he⟩ := List.mem_filterMap.1 hd
    cases h : tok[k]? with
    | none => rw [h] at he; cases he
    | some o => rw [h] at he; cases o with
      | none => cases he
      | some b => cases he; exact ⟨k, hk, h⟩
  refine ⟨ts.filterMap fun k => (tok[k]?).join, ho.own (F := F') (box := box) (Both.cons.2 ⟨hrep, rfl, by simp⟩), ?_, fun d hd => ?_⟩
  · clear hrep ho
    induction ts with
    | nil => simp
    | cons k ts ih =>
      obtain ⟨n1, n2⟩ := List.nodup_cons.1 hn
      have hget' : ∀ d, d ∈ ts.filterMap (fun k => (tok[k]?).join) → ∃ k ∈ ts, tok[k]? = some (some d) := fun d hd => by
        obtain ⟨k, hk, he⟩ := List.mem_filterMap.1 hd
        cases h : tok[k]? with
        | none => rw [h] at he; cases he
        | some o => rw [h] at he; cases o with
          | none => cases he
          | some b => cases he; exact ⟨k, hk, h⟩
      rw [List.filterMap_cons]
      split
      · exact ih n2 hget'
      · rename_i b hb'
        refine List.nodup_cons.2 ⟨fun hm => ?_, ih n2 hget'⟩
        obtain ⟨k', hk', he'⟩ := hget' b hm
        have he : tok[k]? = some (some b) := by
          cases h : tok[k]? with
          | none => rw [h] at hb'; cases hb'
          | some o => rw [h] at hb'; cases o with
            | none => cases hb'
            | some b => cases hb'; rfl
        exact n1 (htinj k k' b he he' ▸ hk')
  · obtain ⟨k, _, hk⟩ := hget d hd
    exact htin k d hk
theorem Own.of_irP {fid : Nat} {fn : Func} {code : ACode} {rs : List RRes} {K : List Nat} {args : List AV} {x : Tr} (hf : P.funcs[fid]? = some fn) (hb : fn.body.isSome = true) (hm : (fn.name == "runtime.NumGoroutine") = false)
    (hn : args.length ≤ fn.ntmps) (hc : cCode P fn.ntmps (fn.body.getD .skip) = code) (hrs : fn.results.toList.map (cRes P) = rs)
    (h : aCode (Kn mo P) K 0 code (doneG rs fun r _ f => ∃ ts, OwnA f [x] [r] ts ∧ ts.Nodup) ⟨argEnv 0 args, [], []⟩) : Own mo P fid args x := by
  rw [Kn_eq] at h; rw [Own_eq]
  obtain ⟨c, hc'⟩ := Option.isSome_iff_exists.1 hb
  rw [hc', Option.getD_some] at hc
  rw [← hc, ← hrs] at h
  refine ⟨okFn_of hf hb hm, fun w F vs hout hargs => (calls_of_code hf hc' hn K h w F vs hout hargs).mono ?_⟩
  rintro e w' ⟨v, F', tok, box, r, b, frs, ⟨ts, ho, hnd⟩, rfl, hb, hold, ho', htl, htin, htinj, hrep⟩
  obtain ⟨ds, h1, h2, h3⟩ := own_post hrep ho hnd htin htinj
  exact ⟨v, ds, rfl, hb, h1, h2, h3⟩
end
end Abs
open Abs Go.RowKit
theorem strs_get2 {l : List Str} {i j : Nat} {e : List AV} {c : AV} (hi : (strs l)[i]? = some e) (hj : e[j]? = some c) : ∃ s, l[i]? = some s ∧ j = 0 ∧ c = .str s := by
  rw [strs_eq, List.getElem?_map] at hi
  obtain ⟨s, hs, rfl⟩ := Option.map_eq_some_iff.1 hi
  cases j with
  | zero => simp at hj; exact ⟨s, hs, rfl, hj.symm⟩
  | succ j => simp at hj
/-- a row of texts that a call owns, as a list of its own -/
theorem lent_strs {T : TypeId} {w w' : World} {F : Nat → Nat} {box0 : List BId} {b0 : List ABox} {Φ : AV → List ABox → Fr → Prop} {v : Value} {l : List Str} (hd : noDead b0 = true)
    (hout : ∀ b, w.heap.size ≤ b → F b = 0) (hbl : box0.length = b0.length) (hbi : ∀ (j b c : Nat), box0[j]? = some (.blk b c) → b < w.heap.size ∧ (live b0 j → F b = 0))
    (hbj : ∀ (i j b c c' : Nat), box0[i]? = some (.blk b c) → box0[j]? = some (.blk b c') → live b0 i → live b0 j → i = j) (hB : BoxesOk w.heap.size w F [] [] box0 b0)
    (hrow : w'.ownsRow w.heap.size T 1 v l.length (l.map encStr)) (hw : Below w.heap.size w w') (hΦ : Φ (.list (some 0) (strs l)) b0 [(T, 1, l.length)]) :
    ∃ (u : Value) (F' : Nat → Nat) (box1 : List BId) (tok : List (Option Nat)) (frs : Fr) (r : AV) (b1 : List ABox), Φ r b1 frs ∧ Ending.returned v = .returned u ∧ Keep false (mask b0 box0) w w' ∧ (∀ b, b < w.heap.size → F' b = F b) ∧ (∀ b, w'.heap.size ≤ b → F' b = 0) ∧
      (∀ (j : Nat) d, box0[j]? = some d → box1[j]? = some d) ∧ box1.length = b1.length ∧
      (∀ (j b c : Nat), box0.length ≤ j → box1[j]? = some (.blk b c) → (w.heap.size ≤ b ∨ ∃ i : Nat, live b0 i ∧ box0[i]? = some (.blk b c)) ∧ b < w'.heap.size) ∧
      (∀ (j b c : Nat), box1[j]? = some (.blk b c) → live b1 j → (box0.length ≤ j ∨ live b0 j) → F' b = 0) ∧
      (∀ (i j b c c' : Nat), box1[i]? = some (.blk b c) → box1[j]? = some (.blk b c') → live b1 i → live b1 j → (box0.length ≤ i ∨ live b0 i) → (box0.length ≤ j ∨ live b0 j) → i = j) ∧
      (∀ (j : Nat) d x, box1[j]? = some d → b1[j]? = some x → (box0.length ≤ j ∨ live b0 j) → BoxOk w.heap.size w' F' [] [] box1 d x) ∧
      tok.length = frs.length ∧ (∀ (k b : Nat), tok[k]? = some (some b) → w.heap.size ≤ b ∧ b < w'.heap.size) ∧ (∀ (k l b : Nat), tok[k]? = some (some b) → tok[l]? = some (some b) → k = l) ∧
      (∀ (k b j c : Nat), tok[k]? = some (some b) → box1[j]? = some (.blk b c) → ¬ live b1 j) ∧ Rep w.heap.size w' F' tok frs box1 r u := by
  have hlv := noDead_live hd
  have hk : Keep false (mask b0 box0) w w' := ⟨(fun h => nomatch h), hw.os, hw.tape, hw.output, hw.size, fun k hk _ => hw.block k hk⟩
  obtain ⟨a, cap, hv, hcap, hnew, hne⟩ : ∃ (a : Option Addr) (cap : Nat), v = .slice a l.length cap ∧ l.length ≤ cap ∧ (∀ g, a.map (·.block) = some g → w.heap.size ≤ g ∧ g < w'.heap.size) ∧ (l ≠ [] → ∃ g cur, a = some ⟨g, 0, none⟩ ∧ w'.heap[g]? = some (.cells cur T (0, 0)) ∧ cur.toList.take l.length = l.map encStr) := by
    rcases hrow.2 with ⟨hv, hn⟩ | ⟨g, cap, cur, hv, hbase, hh, h1, h2, h3, h4⟩
    · have hl : l = [] := List.eq_nil_of_length_eq_zero hn
      subst hl
      exact ⟨none, 0, hv, Nat.le_refl _, by simp, fun h => (h rfl).elim⟩
    · refine ⟨some ⟨g, 0, none⟩, cap, hv, h1, fun b hb => ?_, fun _ => ⟨g, cur, rfl, hh, by simpa using h4⟩⟩
      cases hb
      exact ⟨hbase, (Array.getElem?_eq_some_iff.1 hh).1⟩
  subst hv
  obtain ⟨F', hF'⟩ : ∃ F' : Nat → Nat, ∀ b, F' b = if a.map (·.block) = some b then l.length else F b := ⟨_, fun _ => rfl⟩
  refine ⟨_, F', box0, [a.map (·.block)], [(T, 1, l.length)], _, b0, hΦ, rfl, hk, fun b hb => ?_, fun b hb => ?_, fun _ _ h => h, hbl, fun j b c h1 h2 => ?_, fun j b c h1 h2 _ => ?_, fun i j b c c' h1 h2 h3 h4 _ _ => hbj i j b c c' h1 h2 h3 h4, fun j d x hd' hx _ => ?_, rfl, fun k b hkb => ?_, fun k q b h1 h2 => ?_, fun k b j c h1 h2 => ?_, ?_⟩
  · rw [hF']; split
    · rename_i h; have := (hnew b h).1; omega
    · rfl
  · rw [hF']; split
    · rename_i h; have := (hnew b h).2; omega
    · exact hout b (Nat.le_trans hw.size hb)
  · have := getElem?_lt h2; omega
  · have := hbi j b c h1
    rw [hF']; split
    · rename_i h; have := (hnew b h).1; omega
    · exact this.2 (hlv j)
  · refine (hB j d x hd' hx).later (F := F) ⟨fun b i hi => ?_, fun b => ?_, fun k t s n h => by simp at h⟩ (fun _ _ h => h) (fun b c he _ => hw.block b (hbi j b c (he ▸ hd')).1)
    · have hlt : b < w.heap.size := by
        rcases Nat.lt_or_ge b w.heap.size with h | h
        · exact h
        · rw [hout b h] at hi; omega
      exact World.cell?_of_block (w := w) (hw.block b hlt)
    · rw [hF']; split
      · rename_i h; rw [hout b (hnew b h).1]; exact Nat.zero_le _
      · exact Nat.le_refl _
  · cases k with
    | zero => simp at hkb; exact hnew b (by simpa using hkb)
    | succ k => simp at hkb
  · cases k <;> cases q <;> simp at h1 h2 ⊢
  · cases k with
    | zero => simp at h1; have := (hbi j b c h2).1; have := (hnew b (by simpa using h1)).1; omega
    | succ k => simp at h1
  · have hlen : (strs l).length = l.length := length_strs l
    rw [← hlen]
    have hcell : ∀ i s, l[i]? = some s → ∃ g, a = some ⟨g, 0, none⟩ ∧ w'.cell? ⟨g, i, none⟩ = some (mkS s) := fun i s hs => by
      obtain ⟨g, cur, hg, hh, ht⟩ := hne (by rintro rfl; simp at hs)
      refine ⟨g, hg, ?_⟩
      have h1 : (cur.toList.take l.length)[i]? = some (mkS s) := by rw [ht, List.getElem?_map, hs]; rfl
      rw [List.getElem?_take, if_pos (getElem?_lt hs)] at h1
      simp [World.cell?, hh]
      simpa using h1
    refine .list (some 0) (strs l) a cap 1 ((a.map (·.block)).getD 0) 0 (fun i _ => mkS (l.getD i [])) (by omega) (fun hx => ?_) (fun e he => ?_) (fun hx => ?_) (fun i e j c hi hj => ?_) (fun i e j c hi hj => ?_) (fun k hk' => ?_)
    · obtain ⟨g, cur, hg, _, _⟩ := hne (by rintro rfl; exact hx rfl)
      rw [hg]; rfl
    · rw [strs_eq] at he; obtain ⟨s, _, rfl⟩ := List.mem_map.1 he; rfl
    · obtain ⟨g, cur, hg, _, _⟩ := hne (by rintro rfl; exact hx rfl)
      rw [hF', hg]; simp
    · obtain ⟨s, hs, rfl, rfl⟩ := strs_get2 hi hj
      obtain ⟨g, hg, hc⟩ := hcell i s hs
      have e1 : l.getD i [] = s := by simp [List.getD, hs]
      simp only [hg, Option.map_some, Option.getD_some, Nat.zero_add, Nat.mul_one, Nat.add_zero, e1]
      exact ⟨hc, rfl⟩
    · obtain ⟨s, hs, rfl, rfl⟩ := strs_get2 hi hj
      have e1 : l.getD i [] = s := by simp [List.getD, hs]
      simp only [e1]; exact .str s
    · cases hk'
      refine ⟨T, 1, (strs l).length, rfl, Nat.le_refl _, fun _ => ⟨rfl, ⟨l.map encStr, ?_⟩, rfl, fun b hb => ?_⟩⟩
      · rw [hlen]; exact hrow
      · rw [hF', if_pos hb]; simp [hlen]
section
open Go.WideElems (rd rg Fit rg_of)
theorem rd_at {P : Program} {k e : TypeId} {es : Array MapEntry} {clock : Nat} {m : List (Str × Str)} (hk : P.underlying k = some .string) (he : P.underlying e = some .string) (h : MapIs es clock m) {j : Nat} {x : MapEntry} (hx : es.toList[j]? = some x) :
    ∃ p, m[j]? = some p ∧ rd (H := Unit) P k (plainElem P e) x = some (.string p.1, .lit (.string p.2)) := by
  obtain ⟨p, hp, h1, h2⟩ := h.get hx
  obtain ⟨l1, l2⟩ := h.len p (List.mem_of_getElem? hp)
  refine ⟨p, hp, ?_⟩
  have e1 : keyOf P k x.key = some (.string p.1) := by
    rw [h1]; exact WideMaps.keyOf_string_mk hk (s := ⟨p.1.toArray⟩) l1
  have e2 : plainElem (H := Unit) P e x.val = some (.lit (.string p.2), []) := by
    rw [h2]; exact plainElem_string he (s := ⟨p.2.toArray⟩) l2
  simp [rd, e1, e2]
theorem map_owns {P : Program} {k e : TypeId} {w : World} {b : Nat} {es : Array MapEntry} {clock : Nat} {m : List (Str × Str)} (hk : P.underlying k = some .string) (he : P.underlying e = some .string) (h : MapIs es clock m) (hb : w.heap[b]? = some (.map es clock)) :
    ∃ D0 : DataW Unit, w.ownsMap P k (plainElem P e) b m.length D0 ∧ Maps.size D0 = m.length ∧ (strKeys D0).Perm (m.map (·.1)) := by
  have hrg : es.toList.map (rg (H := Unit) P k (plainElem P e)) = m.map fun p => (Lit.string p.1, DataW.lit (.string p.2)) := by
    apply List.ext_getElem?
    intro j
    rw [List.getElem?_map, List.getElem?_map]
    cases hx : es.toList[j]? with
    | none =>
      have : m[j]? = none := by
        have hl := h.length
        rw [List.getElem?_eq_none_iff] at hx ⊢
        simp only [Array.length_toList] at hx; omega
      rw [this]; rfl
    | some x =>
      obtain ⟨p, hp, hr⟩ := rd_at hk he h hx
      rw [hp, Option.map_some, Option.map_some, rg_of hr]
  refine ⟨_, ⟨es, clock, hb, ⟨by rw [h.length]; exact h.size, h.stamped, fun x hx => ?_⟩, by rw [h.length]; exact Nat.le_refl _, rfl⟩, ?_, ?_⟩
  · obtain ⟨j, hj⟩ := List.getElem?_of_mem hx
    obtain ⟨p, _, hr⟩ := rd_at hk he h hj
    exact ⟨_, hr⟩
  · rw [hrg]
    show (List.foldr DataW.insert [] _).length = _
    rw [length_sorted, List.length_map]
  · rw [hrg]
    refine ((WideShapes.sorted_perm _).map _).trans ?_
    rw [List.map_map]
    exact List.Perm.refl _
end
theorem slSortedS.lent (b0 : List ABox) (c j : Nat) (m : List (Str × Str)) (hd : noDead b0 = true) (hc : b0[c]? = some (.cells .var [.bmap j])) (hj : b0[j]? = some (.map m)) (hm : m.length ≤ 1048576) :
    Abs.Lent false Tryz.prog 78 b0 [.clo 86 [] [.bptr c 0]] (fun x y z => x = .list (some 0) (strs (srt (m.map (·.1)))) ∧ y = b0 ∧ z = [(9, 1, m.length)]) := by
  rw [Lent_eq]
  refine ⟨by kernel_rfl, fun w F vs box0 hout hbl hbi hbj hB hargs => ?_⟩
  obtain ⟨v0, rfl⟩ : ∃ v0, vs = #[v0] := by
    have := hargs.1
    match vs, this with
    | ⟨[a]⟩, _ => exact ⟨a, rfl⟩
  obtain ⟨h0, _⟩ := Both.cons.1 hargs
  have hbx : ∀ q x, b0[q]? = some x → ∃ d, box0[q]? = some d := fun q x hx => ⟨_, List.getElem?_eq_getElem (by have := getElem?_lt hx; omega)⟩
  obtain ⟨d1, hd1⟩ := hbx c _ hc
  obtain ⟨d2, hd2⟩ := hbx j _ hj
  have o1 := hB c _ _ hd1 hc
  have o2 := hB j _ _ hd2 hj
  cases d2 with
  | nil => exact o2.elim
  | blk bm cm =>
  cases d1 with
  | nil => exact absurd o1 (by simp [BoxOk])
  | blk bc cc =>
  obtain ⟨arr, t, hh, hsz, hcell, _⟩ := o1
  obtain ⟨r1, _⟩ := hcell 0 _ rfl
  obtain ⟨es, clock, hmh, hM⟩ := o2
  have hv : arr.getD 0 undef = .map (some bm) := by
    generalize arr.getD 0 undef = u at r1
    cases r1 with
    | bmap _ b cap hb => rw [hd2] at hb; cases hb; rfl
  have hlt : bc < w.heap.size := (Array.getElem?_eq_some_iff.1 hh).1
  have hcl : w.cell? ⟨bc, 0, none⟩ = some (.map (some bm)) := by
    have h1 : 0 < arr.size := by simp at hsz; omega
    have h2 : arr[0]? = some (.map (some bm)) := by rw [← hv]; simp [Array.getD, h1]
    simp [World.cell?, hh, h2]
  have hv0 : v0 = .func (.func 86) #[] #[.pointer (some ⟨bc, 0, none⟩)] := by
    cases h0 with
    | clo f xs ys vf vc h1 h2 hr1 hr2 =>
      have e1 : vf = #[] := Array.eq_empty_of_size_eq_zero (by simpa using h1.symm)
      obtain ⟨u, rfl⟩ : ∃ u, vc = #[u] := by
        match vc, h2 with
        | ⟨[u]⟩, _ => exact ⟨u, rfl⟩
      have h3 := hr2 0 _ rfl
      obtain ⟨b, cap, hb, hu⟩ := h3.bptr_inv
      rw [hd1] at hb; cases hb
      have : u = .pointer (some ⟨bc, 0, none⟩) := hu
      rw [e1, this]
  obtain ⟨D0, hown, hDs, hperm⟩ := map_owns (P := Tryz.prog) (k := 9) (e := 9) Tryz.underlying9 Tryz.underlying9 hM hmh
  rw [hv0]
  refine (callsIn_wide.1 (Tryz.sortedKeysAt bc bm m.length D0 (plainElem Tryz.prog 9) w hlt hcl hown (by rw [hDs]; unfold maxLen; omega) (by rw [hDs]; omega))).mono ?_
  rintro e w' ⟨v, ss, rfl, hs, hrow, _, hbw⟩
  have hp := hs.trans hperm
  have hl : (srt (m.map (·.1))).length = m.length := by simp [srt]
  have e1 : ss.mergeSort (fun x y => decide (x ≤ y)) = srt (m.map (·.1)) := mergeSort_of_perm hp
  have e2 : ss.length = (srt (m.map (·.1))).length := by rw [hl, hp.length_eq, List.length_map]
  rw [e1, e2] at hrow
  exact lent_strs hd hout hbl hbi hbj hB hrow hbw ⟨rfl, rfl, by rw [hl]⟩
end Go.Proofs.YtfffboofmccfhaaGreat
namespace Go.Proofs.YtfffboofmccfhaaGreat
open Abs
mutual
theorem old_ok : ∀ (x : Tr) (m : Nat), noTk (old x) = true ∧ inB m (old x)
  | .v _, _ => ⟨rfl, trivial⟩
  | .s _, _ => ⟨rfl, trivial⟩
  | .l _ _ xs, _ => ⟨oldLL_ok xs, trivial⟩
  | .a fs, m => inBL_all (oldL_ok fs m)
  | .p fs, m => inBL_all (oldL_ok fs m)
theorem oldL_ok : ∀ (xs : List Tr) (m : Nat), ∀ c ∈ oldL xs, noTk c = true ∧ inB m c
  | [], _, c, hc => by simp [oldL] at hc
  | x :: xs, m, c, hc => by
    rw [oldL] at hc
    rcases List.mem_cons.1 hc with rfl | hc
    · exact old_ok x m
    · exact oldL_ok xs m c hc
theorem oldLL_ok : ∀ (xs : List (List Tr)), noTkLL (oldLL xs) = true
  | [] => rfl
  | x :: xs => by
    rw [oldLL, noTkLL, (inBL_all (oldL_ok x 0)).1, oldLL_ok xs]; rfl
end
theorem noTk_old (xs : List Tr) : ∀ c ∈ oldL xs, noTk c = true := fun c hc => (oldL_ok xs 0 c hc).1
/-- cells without slices of the call's own, and without boxes -/
def PlainC (x : List AV) : Prop := (∀ c ∈ x, noTk c = true) ∧ ∀ m, inB.inBL m x
theorem plainC_old (xs : List Tr) : PlainC (oldL xs) := ⟨noTk_old xs, fun m => (inBL_all (oldL_ok xs m)).2⟩
theorem bindF_lt {b : List VPair} (h : bindF b = true) {j : Nat} (hj : j < b.length) : badB b j = false := by
  cases hb : badB b j with
  | false => rfl
  | true => rw [bindF_no hj hb] at h; cases h
theorem bindF_len {b : List VPair} (h : bindF b = true) : b.length ≤ 6 := by
  rcases Nat.lt_or_ge 6 b.length with h1 | h1
  · rw [bindF_long (by omega)] at h; cases h
  · exact h1
theorem bindF_asc {b : List VPair} (h : bindF b = true) : ∀ (j : Nat), j + 1 < b.length → Op.bytesLess (b.getD j default).1 (b.getD (j + 1) default).1 = true := fun j hj => by
  have := bindF_lt h hj
  unfold badB at this
  simp only [Bool.or_eq_false_iff, Bool.and_eq_false_iff, decide_eq_false_iff_not, Bool.not_eq_false', Nat.add_sub_cancel] at this
  rcases this.2 with h1 | h1
  · omega
  · exact h1
theorem bindF_sorted {b : List VPair} (h : bindF b = true) : ∀ (d i : Nat), i + d + 1 < b.length → Op.bytesLess (b.getD i default).1 (b.getD (i + d + 1) default).1 = true
  | 0, i, hi => bindF_asc h i hi
  | d + 1, i, hi => blt_sto.trans _ _ _ (bindF_sorted h d i (by omega)) (bindF_asc h (i + d + 1) hi)
theorem bindF_apart {b : List VPair} (h : bindF b = true) {i j : Nat} (hij : i < j) (hj : j < b.length) : (b.getD i default).1 ≠ (b.getD j default).1 := fun e => by
  have := bindF_sorted h (j - i - 1) i (by omega)
  rw [show i + (j - i - 1) + 1 = j by omega, e, bl_irrefl] at this
  cases this
theorem mput_bind {b : List VPair} (h : bindF b = true) {i : Nat} (hi : i < b.length) : mput (b.take i) (b.getD i default).1 (b.getD i default).2 = b.take (i + 1) := by
  have hn : ∀ p ∈ b.take i, p.1 ≠ (b.getD i default).1 := fun p hp => by
    obtain ⟨j, hj⟩ := List.getElem?_of_mem hp
    rw [List.getElem?_take] at hj
    split at hj
    · rename_i hji
      have e : b.getD j default = p := by simp [List.getD, hj]
      rw [← e]; exact bindF_apart h hji hi
    · cases hj
  rw [(mget_no hn).2, take_succ' default hi]
theorem pmapOfPairs.lent (x y : List AV) (hx : PlainC x) (hy : PlainC y) (b : List VPair) (h : tPairs.size b ≤ 1048576) (hb : bindF b = true) :
    pmapOfPairs.Lent [.cells .var x, .cells .var y] [.list none (pairs b)] (fun r b1 f1 => r = .bmap 2 ∧ b1 = [.cells .var x, .cells .var y, .map b] ∧ f1 = []) := by
  refine pmapOfPairs.ofL rfl rfl ?_
  rw [tPairs_sz] at h
  repeat' first
    | contradiction | exact trivial
    | (conv => whnf
       first | refine Need.mk (fun h => h) ?_ | refine Need.mk rfl ?_ | refine Need.mk ⟨rfl, Nat.le_of_ble_eq_true rfl⟩ ?_ | refine Need.mk (Nat.le_of_ble_eq_true rfl) ?_ | refine Need.fin ?_ | refine Need.mk ?_ ?_ | refine Ix.strsF rfl ?_ | refine Ix.strs rfl ?_ ?_ | refine Cut.strs rfl ?_ ?_ | refine Ix.mapF (fun _ => rfl) ?_ | refine Ix.map (fun _ => rfl) ?_ ?_ | refine Cut.map (fun _ => rfl) ?_ ?_ | refine Fork.yes (by assumption) ?_ | refine Fork.no (by assumption) ?_ | refine Fork.decYes (by omega) ?_ | refine Fork.decNo (by omega) ?_ | refine Fork.dec (fun _ => ?_) (fun _ => ?_) | refine Fork.bne (fun _ => ?_) (fun _ => ?_) | refine Fork.beq (fun _ => ?_) (fun _ => ?_) | refine Fork.seq (fun _ => ?_) (fun _ => ?_) | refine Fork.sne (fun _ => ?_) (fun _ => ?_) | refine Fork.neg (fun _ => ?_) (fun _ => ?_) | refine Fork.mk (fun _ => ?_) (fun _ => ?_) | refine HAlt.mk ?_ ?_ | apply HJoin.mk3 | exact HEnd.mk rfl rfl rfl | refine HEnd.mk ?_ ?_ ?_ | refine Round.mk ?_ | refine NilQ.mk (fun b hb => ?_) | refine forceK_of ?_ | refine forceBx_of ?_ | refine unG_old ?_ | refine unG_gv ?_ | refine Lit.read rfl ?_ | refine FinVal.keep ?_ | refine FinAgg.keep ?_ | refine Final.mk rfl rfl | refine Final.mk ?_ rfl | refine Final.mk ?_ ?_ | refine FinalT.mk ?_ ?_ | refine FinalC.allA ?_)
    | refine AV.bool_congr ?_ | refine AV.int_congr ?_ | refine AV.str_congr ?_ | refine AV.list_congr ?_ | with_reducible rfl | refine fr1 ?_ | refine fr2 ?_ ?_
  refine ALoop.mk Nat (fun i => ⟨[(0, .list none (pairs b)), (3, .bmap 2), (7, .list none (pairs b)), (8, .val (.int .i64 b.length)), (9, .val (.int .i64 i))], [.cells .var x, .cells .var y, .map (b.take i)], []⟩) (fun i => i ≤ b.length) (fun i => b.length - i) ⟨0, Nat.zero_le _, ?_⟩ (fun i hi => ?_)
  · repeat' first
      | exact trivial | refine Weak.mk ?_ ?_ ?_ ?_ (Or.inl (Nat.le_of_ble_eq_true rfl)) | refine Weak.mk ?_ ?_ ?_ ?_ (Or.inr ⟨(by repeat' first | exact trivial | exact Nat.le_of_ble_eq_true rfl | refine And.intro ?_ ?_ | exact hx.2 _ | exact hy.2 _), (by repeat' first | exact trivial | exact Nat.le_of_ble_eq_true rfl | refine And.intro ?_ ?_ | exact hx.2 _ | exact hy.2 _)⟩) | refine Weak.mk ?_ ?_ ?_ ?_ ?_ | refine And.intro ?_ ?_ | with_reducible rfl | exact Nat.le_of_ble_eq_true rfl | refine fr1 ?_ | refine fr2 ?_ ?_ | refine AV.int_congr ?_ | refine AV.bool_congr ?_ | refine AV.str_congr ?_ | refine AV.list_congr ?_ | refine AV.bsl_congr ?_ ?_ | (apply rfl) | refine bx_cons ?_ ?_ | refine bx_map ?_
    simp
  repeat' first
    | contradiction | exact trivial
    | (conv => whnf
       first | refine Need.mk (fun h => h) ?_ | refine Need.mk rfl ?_ | refine Need.mk ⟨rfl, Nat.le_of_ble_eq_true rfl⟩ ?_ | refine Need.mk (Nat.le_of_ble_eq_true rfl) ?_ | refine Need.fin ?_ | refine Need.mk ?_ ?_ | refine Ix.strsF rfl ?_ | refine Ix.strs rfl ?_ ?_ | refine Cut.strs rfl ?_ ?_ | refine Ix.mapF (fun _ => rfl) ?_ | refine Ix.map (fun _ => rfl) ?_ ?_ | refine Cut.map (fun _ => rfl) ?_ ?_ | refine Fork.yes (by assumption) ?_ | refine Fork.no (by assumption) ?_ | refine Fork.decYes (by omega) ?_ | refine Fork.decNo (by omega) ?_ | refine Fork.dec (fun _ => ?_) (fun _ => ?_) | refine Fork.bne (fun _ => ?_) (fun _ => ?_) | refine Fork.beq (fun _ => ?_) (fun _ => ?_) | refine Fork.seq (fun _ => ?_) (fun _ => ?_) | refine Fork.sne (fun _ => ?_) (fun _ => ?_) | refine Fork.neg (fun _ => ?_) (fun _ => ?_) | refine Fork.mk (fun _ => ?_) (fun _ => ?_) | refine HAlt.mk ?_ ?_ | apply HJoin.mk3 | exact HEnd.mk rfl rfl rfl | refine HEnd.mk ?_ ?_ ?_ | refine Round.mk ?_ | refine NilQ.mk (fun b hb => ?_) | refine forceK_of ?_ | refine forceBx_of ?_ | refine unG_old ?_ | refine unG_gv ?_ | refine Lit.read rfl ?_ | refine FinVal.keep ?_ | refine FinAgg.keep ?_ | refine Final.mk rfl rfl | refine Final.mk ?_ rfl | refine Final.mk ?_ ?_ | refine FinalT.mk ?_ ?_ | refine FinalC.allA ?_)
    | refine AV.bool_congr ?_ | refine AV.int_congr ?_ | refine AV.str_congr ?_ | refine AV.list_congr ?_ | with_reducible rfl | refine fr1 ?_ | refine fr2 ?_ ?_
  all_goals try simp only [length_rows, length_strs, length_oldLL, List.length_map, Int.toNat_natCast] at *
  · have := pr_le (l := b) i
    have h2 : (b.take i).length ≤ b.length := by simp; omega
    unfold maxLen; omega
  · refine ⟨i + 1, by omega, ?_, by omega⟩
    repeat' first
      | exact trivial | refine Weak.mk ?_ ?_ ?_ ?_ (Or.inl (Nat.le_of_ble_eq_true rfl)) | refine Weak.mk ?_ ?_ ?_ ?_ (Or.inr ⟨(by repeat' first | exact trivial | exact Nat.le_of_ble_eq_true rfl | refine And.intro ?_ ?_ | exact hx.2 _ | exact hy.2 _), (by repeat' first | exact trivial | exact Nat.le_of_ble_eq_true rfl | refine And.intro ?_ ?_ | exact hx.2 _ | exact hy.2 _)⟩) | refine Weak.mk ?_ ?_ ?_ ?_ ?_ | refine And.intro ?_ ?_ | with_reducible rfl | exact Nat.le_of_ble_eq_true rfl | refine fr1 ?_ | refine fr2 ?_ ?_ | refine AV.int_congr ?_ | refine AV.bool_congr ?_ | refine AV.str_congr ?_ | refine AV.list_congr ?_ | refine AV.bsl_congr ?_ ?_ | (apply rfl) | refine bx_cons ?_ ?_ | refine bx_map ?_
    · rw [wrap64 (by omega) (by omega)]; rfl
    · show mput (b.take i) (b.getD i default).1 (b.getD i default).2 = _
      rw [mput_bind hb (by omega)]
  · simp [List.take_of_length_le (show b.length ≤ i by omega)]
def turnStep (m : List VPair) (p : Str × Str) : Option (List VPair) :=
  if varF p.1 then (match mget m p.1 with | some v => if v = p.2 then some m else none | none => some (mput m p.1 p.2)) else if p.1 = p.2 then some m else none
def turnS (m : List VPair) : List (Str × Str) → Option (List VPair)
  | [] => some m
  | p :: l => match turnStep m p with | some m' => turnS m' l | none => none
def turnF (m : List VPair) (a x : List Str) : Option (List VPair) := if a.length = x.length then turnS m (a.zip x) else none
theorem step_no {m : List VPair} {t x : Str} (h : varF t = false) (h' : t ≠ x) : turnStep m (t, x) = none := by simp [turnStep, h, h']
theorem step_eq {m : List VPair} {t x : Str} (h : varF t = false) (h' : t = x) : turnStep m (t, x) = some m := by subst h'; simp [turnStep, h]
theorem step_new {m : List VPair} {t x : Str} (h : varF t = true) (h' : mget m t = none) : turnStep m (t, x) = some (mput m t x) := by simp [turnStep, h, h']
theorem step_bad {m : List VPair} {t x v : Str} (h : varF t = true) (h' : mget m t = some v) (h2 : v ≠ x) : turnStep m (t, x) = none := by simp [turnStep, h, h', h2]
theorem step_old {m : List VPair} {t x v : Str} (h : varF t = true) (h' : mget m t = some v) (h2 : v = x) : turnStep m (t, x) = some m := by simp [turnStep, h, h', h2]
theorem zip_drop {a x : List Str} {i : Nat} (h1 : i < a.length) (h2 : i < x.length) : (a.zip x).drop i = (a.getD i [], x.getD i []) :: (a.zip x).drop (i + 1) := by
  have h : i < (a.zip x).length := by simp; omega
  rw [List.drop_eq_getElem_cons h]
  simp [List.getD, h1, h2]
theorem str_le' (l : List Str) (i : Nat) : (l.getD i []).length ≤ listSize Ty.str l := by
  rcases Nat.lt_or_ge i l.length with h | h
  · exact str_le h
  · have : l.getD i [] = [] := by simp [List.getD, List.getElem?_eq_none h]
    rw [this]; exact Nat.zero_le _
theorem mput_len (m : List VPair) (k v : Str) : (mput m k v).length ≤ m.length + 1 := by
  induction m with
  | nil => simp [mput]
  | cons p m ih =>
    rw [mput]; split
    · simp
    · simp; exact ih
theorem pturnInto.lent (x y : List AV) (hx : PlainC x) (hy : PlainC y) (m : List VPair) (a z : List Str) (ha : a.length + listSize Ty.str a ≤ 1048576) (hz : z.length + listSize Ty.str z ≤ 1048576) (hm : m.length ≤ 1048576) :
    pturnInto.Lent [.cells .var x, .cells .var y, .map m] [.list none (strs a), .list none (strs z), .bmap 2]
      (fun r b1 f1 => ∃ m', r = .val (.bool (turnF m a z).isSome) ∧ b1 = [.cells .var x, .cells .var y, .map m'] ∧ f1 = [] ∧ ∀ m0, turnF m a z = some m0 → m' = m0) := by
  refine pturnInto.ofL rfl rfl ?_
  repeat' first
    | contradiction | exact trivial
    | (conv => whnf
       first | refine Need.mk (fun h => h) ?_ | refine Need.mk rfl ?_ | refine Need.mk ⟨rfl, Nat.le_of_ble_eq_true rfl⟩ ?_ | refine Need.mk (Nat.le_of_ble_eq_true rfl) ?_ | refine Need.fin ?_ | refine Need.mk ?_ ?_ | refine Ix.strsF rfl ?_ | refine Ix.strs rfl ?_ ?_ | refine Cut.strs rfl ?_ ?_ | refine Ix.mapF (fun _ => rfl) ?_ | refine Ix.map (fun _ => rfl) ?_ ?_ | refine Cut.map (fun _ => rfl) ?_ ?_ | refine Fork.yes (by assumption) ?_ | refine Fork.no (by assumption) ?_ | refine Fork.decYes (by omega) ?_ | refine Fork.decNo (by omega) ?_ | refine Fork.dec (fun _ => ?_) (fun _ => ?_) | refine Fork.bne (fun _ => ?_) (fun _ => ?_) | refine Fork.beq (fun _ => ?_) (fun _ => ?_) | refine Fork.seq (fun _ => ?_) (fun _ => ?_) | refine Fork.sne (fun _ => ?_) (fun _ => ?_) | refine Fork.neg (fun _ => ?_) (fun _ => ?_) | refine Fork.mk (fun _ => ?_) (fun _ => ?_) | refine HAlt.mk ?_ ?_ | apply HJoin.mk3 | exact HEnd.mk rfl rfl rfl | refine HEnd.mk ?_ ?_ ?_ | refine Round.mk ?_ | refine NilQ.mk (fun b hb => ?_) | refine forceK_of ?_ | refine forceBx_of ?_ | refine unG_old ?_ | refine unG_gv ?_ | refine Lit.read rfl ?_ | refine FinVal.keep ?_ | refine FinAgg.keep ?_ | refine Final.mk rfl rfl | refine Final.mk ?_ rfl | refine Final.mk ?_ ?_ | refine FinalT.mk ?_ ?_ | refine FinalC.allA ?_)
    | refine AV.bool_congr ?_ | refine AV.int_congr ?_ | refine AV.str_congr ?_ | refine AV.list_congr ?_ | with_reducible rfl | refine fr1 ?_ | refine fr2 ?_ ?_
  all_goals try simp only [length_strs] at *
  · rename_i h
    have h : ¬ a.length = z.length := by omega
    exact ⟨m, by simp [turnF, h], by first | rfl | trivial, by first | rfl | trivial, by simp [turnF, h]⟩
  rename_i h
  have h : a.length = z.length := by omega
  refine ALoop.mk (Nat × List VPair) (fun i => ⟨[(0, .list none (strs a)), (1, .list none (strs z)), (2, .bmap 2), (16, .list none (strs a)), (17, .val (.int .i64 a.length)), (18, .val (.int .i64 i.1))], [.cells .var x, .cells .var y, .map i.2], []⟩)
    (fun i => i.1 ≤ a.length ∧ i.2.length ≤ m.length + i.1 ∧ turnS i.2 ((a.zip z).drop i.1) = turnS m (a.zip z)) (fun i => a.length - i.1) ⟨(0, m), ⟨Nat.zero_le _, by simp, rfl⟩, ?_⟩ (fun i hi => ?_)
  · repeat' first
      | exact trivial | refine Weak.mk ?_ ?_ ?_ ?_ (Or.inl (Nat.le_of_ble_eq_true rfl)) | refine Weak.mk ?_ ?_ ?_ ?_ (Or.inr ⟨(by repeat' first | exact trivial | exact Nat.le_of_ble_eq_true rfl | refine And.intro ?_ ?_ | exact hx.2 _ | exact hy.2 _), (by repeat' first | exact trivial | exact Nat.le_of_ble_eq_true rfl | refine And.intro ?_ ?_ | exact hx.2 _ | exact hy.2 _)⟩) | refine Weak.mk ?_ ?_ ?_ ?_ ?_ | refine And.intro ?_ ?_ | with_reducible rfl | exact Nat.le_of_ble_eq_true rfl | refine fr1 ?_ | refine fr2 ?_ ?_ | refine AV.int_congr ?_ | refine AV.bool_congr ?_ | refine AV.str_congr ?_ | refine AV.list_congr ?_ | refine AV.bsl_congr ?_ ?_ | (apply rfl) | refine bx_cons ?_ ?_ | refine bx_map ?_
    simp
  obtain ⟨i, m'⟩ := i
  obtain ⟨hi, hml, ht⟩ := hi
  simp only at hi hml ht
  have fails : i < a.length → turnStep m' (a.getD i [], z.getD i []) = none → turnF m a z = none := fun hlt hs => by
    rw [zip_drop hlt (by omega), turnS, hs] at ht
    rw [turnF, if_pos h, ← ht]
  have goes : ∀ m'', i < a.length → turnStep m' (a.getD i [], z.getD i []) = some m'' → turnS m'' ((a.zip z).drop (i + 1)) = turnS m (a.zip z) := fun m'' hlt hs => by
    rw [zip_drop hlt (by omega), turnS, hs] at ht
    exact ht
  have hal := str_le' a i
  have hzl := str_le' z i
  repeat' first
    | contradiction | exact trivial
    | (conv => whnf
       first | refine Need.mk (fun h => h) ?_ | refine Need.mk rfl ?_ | refine Need.mk ⟨rfl, Nat.le_of_ble_eq_true rfl⟩ ?_ | refine Need.mk (Nat.le_of_ble_eq_true rfl) ?_ | refine Need.fin ?_ | refine Need.mk ?_ ?_ | refine Ix.strsF rfl ?_ | refine Ix.strs rfl ?_ ?_ | refine Cut.strs rfl ?_ ?_ | refine Ix.mapF (fun _ => rfl) ?_ | refine Ix.map (fun _ => rfl) ?_ ?_ | refine Cut.map (fun _ => rfl) ?_ ?_ | refine Fork.yes (by assumption) ?_ | refine Fork.no (by assumption) ?_ | refine Fork.decYes (by omega) ?_ | refine Fork.decNo (by omega) ?_ | refine Fork.dec (fun _ => ?_) (fun _ => ?_) | refine Fork.bne (fun _ => ?_) (fun _ => ?_) | refine Fork.beq (fun _ => ?_) (fun _ => ?_) | refine Fork.seq (fun _ => ?_) (fun _ => ?_) | refine Fork.sne (fun _ => ?_) (fun _ => ?_) | refine Fork.neg (fun _ => ?_) (fun _ => ?_) | refine Fork.mk (fun _ => ?_) (fun _ => ?_) | refine HAlt.mk ?_ ?_ | apply HJoin.mk3 | exact HEnd.mk rfl rfl rfl | refine HEnd.mk ?_ ?_ ?_ | refine Round.mk ?_ | refine NilQ.mk (fun b hb => ?_) | refine forceK_of ?_ | refine forceBx_of ?_ | refine unG_old ?_ | refine unG_gv ?_ | refine Lit.read rfl ?_ | refine FinVal.keep ?_ | refine FinAgg.keep ?_ | refine Final.mk rfl rfl | refine Final.mk ?_ rfl | refine Final.mk ?_ ?_ | refine FinalT.mk ?_ ?_ | refine FinalC.allA ?_ | refine ACall.scalA _ _ (pIsVar.ret _ ?_) rfl ?_ | refine AQCall.mkA _ _ (fun hg => pIsVar.ret _ ?_) rfl ?_)
    | refine AV.bool_congr ?_ | refine AV.int_congr ?_ | refine AV.str_congr ?_ | refine AV.list_congr ?_ | with_reducible rfl | refine fr1 ?_ | refine fr2 ?_ ?_
  all_goals try simp only [length_rows, length_strs, length_oldLL, List.length_map, Int.toNat_natCast] at *
  · intro _; unfold maxLen; omega
  · omega
  · rename_i h1 h2 h3
    have hf := fails (by omega) (step_no h2 h3)
    exact ⟨m', by rw [hf]; rfl, by first | rfl | trivial, by first | rfl | trivial, by simp [hf]⟩
  · rename_i h1 h2 h3
    refine ⟨(i + 1, m'), ⟨by simp only; omega, by simp only; omega, goes m' (by omega) (step_eq h2 h3)⟩, ?_, by simp only; omega⟩
    repeat' first
      | exact trivial | refine Weak.mk ?_ ?_ ?_ ?_ (Or.inl (Nat.le_of_ble_eq_true rfl)) | refine Weak.mk ?_ ?_ ?_ ?_ (Or.inr ⟨(by repeat' first | exact trivial | exact Nat.le_of_ble_eq_true rfl | refine And.intro ?_ ?_ | exact hx.2 _ | exact hy.2 _), (by repeat' first | exact trivial | exact Nat.le_of_ble_eq_true rfl | refine And.intro ?_ ?_ | exact hx.2 _ | exact hy.2 _)⟩) | refine Weak.mk ?_ ?_ ?_ ?_ ?_ | refine And.intro ?_ ?_ | with_reducible rfl | exact Nat.le_of_ble_eq_true rfl | refine fr1 ?_ | refine fr2 ?_ ?_ | refine AV.int_congr ?_ | refine AV.bool_congr ?_ | refine AV.str_congr ?_ | refine AV.list_congr ?_ | refine AV.bsl_congr ?_ ?_ | (apply rfl) | refine bx_cons ?_ ?_ | refine bx_map ?_
    rw [wrap64 (by omega) (by omega)]; rfl
  · unfold maxLen; omega
  · rename_i h1 h2 h3 h4
    have h3 : mget m' (a.getD i []) = none := by simpa using h3
    have hl := mput_len m' (a.getD i []) (z.getD i [])
    refine ⟨(i + 1, mput m' (a.getD i []) (z.getD i [])), ⟨by simp only; omega, by simp only; omega, goes _ (by omega) (step_new h2 h3)⟩, ?_, by simp only; omega⟩
    repeat' first
      | exact trivial | refine Weak.mk ?_ ?_ ?_ ?_ (Or.inl (Nat.le_of_ble_eq_true rfl)) | refine Weak.mk ?_ ?_ ?_ ?_ (Or.inr ⟨(by repeat' first | exact trivial | exact Nat.le_of_ble_eq_true rfl | refine And.intro ?_ ?_ | exact hx.2 _ | exact hy.2 _), (by repeat' first | exact trivial | exact Nat.le_of_ble_eq_true rfl | refine And.intro ?_ ?_ | exact hx.2 _ | exact hy.2 _)⟩) | refine Weak.mk ?_ ?_ ?_ ?_ ?_ | refine And.intro ?_ ?_ | with_reducible rfl | exact Nat.le_of_ble_eq_true rfl | refine fr1 ?_ | refine fr2 ?_ ?_ | refine AV.int_congr ?_ | refine AV.bool_congr ?_ | refine AV.str_congr ?_ | refine AV.list_congr ?_ | refine AV.bsl_congr ?_ ?_ | (apply rfl) | refine bx_cons ?_ ?_ | refine bx_map ?_
    rw [wrap64 (by omega) (by omega)]; rfl
  · rename_i h1 h2 h3 h4
    obtain ⟨v, hv⟩ := Option.isSome_iff_exists.1 h3
    rw [hv] at h4
    have h4 : v ≠ z.getD i [] := h4
    have hf := fails (by omega) (step_bad h2 hv h4)
    exact ⟨m', by rw [hf]; rfl, by first | rfl | trivial, by first | rfl | trivial, by simp [hf]⟩
  · rename_i h1 h2 h3 h4
    obtain ⟨v, hv⟩ := Option.isSome_iff_exists.1 h3
    rw [hv] at h4
    have h4 : v = z.getD i [] := h4
    refine ⟨(i + 1, m'), ⟨by simp only; omega, by simp only; omega, goes m' (by omega) (step_old h2 hv h4)⟩, ?_, by simp only; omega⟩
    repeat' first
      | exact trivial | refine Weak.mk ?_ ?_ ?_ ?_ (Or.inl (Nat.le_of_ble_eq_true rfl)) | refine Weak.mk ?_ ?_ ?_ ?_ (Or.inr ⟨(by repeat' first | exact trivial | exact Nat.le_of_ble_eq_true rfl | refine And.intro ?_ ?_ | exact hx.2 _ | exact hy.2 _), (by repeat' first | exact trivial | exact Nat.le_of_ble_eq_true rfl | refine And.intro ?_ ?_ | exact hx.2 _ | exact hy.2 _)⟩) | refine Weak.mk ?_ ?_ ?_ ?_ ?_ | refine And.intro ?_ ?_ | with_reducible rfl | exact Nat.le_of_ble_eq_true rfl | refine fr1 ?_ | refine fr2 ?_ ?_ | refine AV.int_congr ?_ | refine AV.bool_congr ?_ | refine AV.str_congr ?_ | refine AV.list_congr ?_ | refine AV.bsl_congr ?_ ?_ | (apply rfl) | refine bx_cons ?_ ?_ | refine bx_map ?_
    rw [wrap64 (by omega) (by omega)]; rfl
  · have e : (a.zip z).drop i = [] := List.drop_eq_nil_of_le (by simp; omega)
    rw [e, turnS] at ht
    have hf : turnF m a z = some m' := by rw [turnF, if_pos h, ← ht]
    exact ⟨m', by rw [hf]; rfl, by first | rfl | trivial, by first | rfl | trivial, by rw [hf]; intro m0 e; cases e; rfl⟩
def pairsM (m : List VPair) : List VPair := (srt (m.map (·.1))).map fun k => (k, (mget m k).getD [])
theorem srt_len (l : List Str) : (srt l).length = l.length := by simp [srt]
theorem slKeys.lent (x y : List AV) (hx : PlainC x) (hy : PlainC y) (m : List VPair) :
    slKeys.Lent [.cells .var x, .cells .var y, .map m] [.bmap 2] (fun r b1 f1 => r = .clo 86 [] [.bptr 3 0] ∧ b1 = [.cells .var x, .cells .var y, .map m, .cells .var [.bmap 2]] ∧ f1 = []) := by
  refine slKeys.ofL rfl rfl ?_
  repeat' first
    | contradiction | exact trivial
    | (conv => whnf
       first | refine Need.mk (fun h => h) ?_ | refine Need.mk rfl ?_ | refine Need.mk ⟨rfl, Nat.le_of_ble_eq_true rfl⟩ ?_ | refine Need.mk (Nat.le_of_ble_eq_true rfl) ?_ | refine Need.fin ?_ | refine Need.mk ?_ ?_ | refine Ix.strsF rfl ?_ | refine Ix.strs rfl ?_ ?_ | refine Cut.strs rfl ?_ ?_ | refine Ix.mapF (fun _ => rfl) ?_ | refine Ix.map (fun _ => rfl) ?_ ?_ | refine Cut.map (fun _ => rfl) ?_ ?_ | refine Fork.yes (by assumption) ?_ | refine Fork.no (by assumption) ?_ | refine Fork.decYes (by omega) ?_ | refine Fork.decNo (by omega) ?_ | refine Fork.dec (fun _ => ?_) (fun _ => ?_) | refine Fork.bne (fun _ => ?_) (fun _ => ?_) | refine Fork.beq (fun _ => ?_) (fun _ => ?_) | refine Fork.seq (fun _ => ?_) (fun _ => ?_) | refine Fork.sne (fun _ => ?_) (fun _ => ?_) | refine Fork.neg (fun _ => ?_) (fun _ => ?_) | refine Fork.mk (fun _ => ?_) (fun _ => ?_) | refine HAlt.mk ?_ ?_ | apply HJoin.mk3 | exact HEnd.mk rfl rfl rfl | refine HEnd.mk ?_ ?_ ?_ | refine Round.mk ?_ | refine NilQ.mk (fun b hb => ?_) | refine forceK_of ?_ | refine forceBx_of ?_ | refine unG_old ?_ | refine unG_gv ?_ | refine Lit.read rfl ?_ | refine FinVal.keep ?_ | refine FinAgg.keep ?_ | refine Final.mk rfl rfl | refine Final.mk ?_ rfl | refine Final.mk ?_ ?_ | refine FinalT.mk ?_ ?_ | refine FinalC.allA ?_)
    | refine AV.bool_congr ?_ | refine AV.int_congr ?_ | refine AV.str_congr ?_ | refine AV.list_congr ?_ | with_reducible rfl | refine fr1 ?_ | refine fr2 ?_ ?_
  · exact ⟨rfl, rfl⟩
  · exact ⟨rfl, rfl, rfl⟩
theorem srt_in {l : List Str} {s : Str} (h : s ∈ srt l) : s ∈ l := by simpa [srt] using h
theorem ppairsOfMap.lent (x y : List AV) (hx : PlainC x) (hy : PlainC y) (m : List VPair) (hm : m.length ≤ 1048576) (hl : ∀ p ∈ m, p.1.length ≤ 1048576) :
    Abs.Lent false Tryz.prog 70 [.cells .var x, .cells .var y, .map m] [.bmap 2]
      (fun r b1 f1 => r = .list (some 0) (pairs (pairsM m)) ∧ b1 = [.cells .var x, .cells .var y, .map m, .cells .var [.bmap 2]] ∧ f1 = [(56, 2, m.length), (9, 1, m.length)]) := by
  refine ppairsOfMap.ofL rfl rfl ?_
  have hk := slKeys.lent x y hx hy m
  have hs := slSortedS.lent [.cells .var x, .cells .var y, .map m, .cells .var [.bmap 2]] 3 2 m rfl rfl rfl hm
  have hlen : (srt (m.map (·.1))).length = m.length := by simp [srt]
  have hsl : ∀ i, ((srt (m.map (·.1))).getD i []).length ≤ 1048576 := fun i => by
    rcases Nat.lt_or_ge i (srt (m.map (·.1))).length with h | h
    · have h1 : (srt (m.map (·.1))).getD i [] ∈ srt (m.map (·.1)) := by simp [List.getD, h]
      obtain ⟨p, hp, e⟩ := List.mem_map.1 (srt_in h1)
      rw [← e]; exact hl p hp
    · have : (srt (m.map (·.1))).getD i [] = [] := by simp [List.getD, List.getElem?_eq_none h]
      rw [this]; exact Nat.zero_le _
  generalize hks : srt (m.map (·.1)) = ks at hs hlen hsl
  have hpm : pairsM m = ks.map fun k => (k, (mget m k).getD []) := by rw [pairsM, hks]
  repeat' first
    | contradiction | exact trivial
    | (conv => whnf
       first | refine Need.mk (fun h => h) ?_ | refine Need.mk rfl ?_ | refine Need.mk ⟨rfl, Nat.le_of_ble_eq_true rfl⟩ ?_ | refine Need.mk (Nat.le_of_ble_eq_true rfl) ?_ | refine Need.fin ?_ | refine Need.mk ?_ ?_ | refine Ix.strsF rfl ?_ | refine Ix.strs rfl ?_ ?_ | refine Cut.strs rfl ?_ ?_ | refine Ix.mapF (fun _ => rfl) ?_ | refine Ix.map (fun _ => rfl) ?_ ?_ | refine Cut.map (fun _ => rfl) ?_ ?_ | refine Fork.yes (by assumption) ?_ | refine Fork.no (by assumption) ?_ | refine Fork.decYes (by omega) ?_ | refine Fork.decNo (by omega) ?_ | refine Fork.dec (fun _ => ?_) (fun _ => ?_) | refine Fork.bne (fun _ => ?_) (fun _ => ?_) | refine Fork.beq (fun _ => ?_) (fun _ => ?_) | refine Fork.seq (fun _ => ?_) (fun _ => ?_) | refine Fork.sne (fun _ => ?_) (fun _ => ?_) | refine Fork.neg (fun _ => ?_) (fun _ => ?_) | refine Fork.mk (fun _ => ?_) (fun _ => ?_) | refine HAlt.mk ?_ ?_ | apply HJoin.mk3 | exact HEnd.mk rfl rfl rfl | refine HEnd.mk ?_ ?_ ?_ | refine Round.mk ?_ | refine NilQ.mk (fun b hb => ?_) | refine forceK_of ?_ | refine forceBx_of ?_ | refine unG_old ?_ | refine unG_gv ?_ | refine Lit.read rfl ?_ | refine FinVal.keep ?_ | refine FinAgg.keep ?_ | refine Final.mk rfl rfl | refine Final.mk ?_ rfl | refine Final.mk ?_ ?_ | refine FinalT.mk ?_ ?_ | refine FinalC.allA ?_ | refine ACall.lentE _ _ _ _ _ (Lent.weak (hk)) (by repeat' first | exact Lends.nil | refine Lends.map _ ?_ | refine Lends.lend _ _ (by first | exact hx.1 | exact hy.1 | exact noTk_old _ | (intro c hc; rw [List.mem_singleton.1 hc]; rfl) | (intro c hc; cases hc; done)) ?_) (by repeat' first | exact SeesL.nil | refine SeesL.cons ?_ ?_ | exact Or.inl ⟨rfl, rfl⟩ | exact Or.inr (Sees0.str _) | exact Or.inr (Sees0.val _) | exact Or.inr (Sees0.olds _ _) | exact Or.inr (Sees0.old _) | exact Or.inr (Sees0.oldagg _)) ?_ | refine ACall.lentS _ _ _ _ _ (hs) (by repeat' first | exact Lends.nil | refine Lends.map _ ?_ | refine Lends.lend _ _ (by first | exact hx.1 | exact hy.1 | exact noTk_old _ | (intro c hc; rw [List.mem_singleton.1 hc]; rfl) | (intro c hc; cases hc; done)) ?_) (by repeat' first | exact SeesL.nil | refine SeesL.cons ?_ ?_ | exact Or.inl ⟨rfl, rfl⟩ | exact Or.inr (Sees0.str _) | exact Or.inr (Sees0.val _) | exact Or.inr (Sees0.olds _ _) | exact Or.inr (Sees0.old _) | exact Or.inr (Sees0.oldagg _)) ?_)
    | refine AV.bool_congr ?_ | refine AV.int_congr ?_ | refine AV.str_congr ?_ | refine AV.list_congr ?_ | with_reducible rfl | refine fr1 ?_ | refine fr2 ?_ ?_
  refine ALoop.mk Nat (fun i => ⟨[(0, .bmap 2), (3, .list (some 0) (pairs ((ks.take i).map fun k => (k, (mget m k).getD [])))), (9, .list (some 1) (strs ks)), (10, .val (.int .i64 ks.length)), (11, .val (.int .i64 i))], [.cells .var x, .cells .var y, .map m, .cells .var [.bmap 2]], [(56, 2, ((ks.take i).map fun k => (k, (mget m k).getD [])).length), (9, 1, m.length)]⟩)
    (fun i => i ≤ ks.length) (fun i => ks.length - i) ⟨0, Nat.zero_le _, ?_⟩ (fun i hi => ?_)
  · repeat' first
      | exact trivial | refine Weak.mk ?_ ?_ ?_ ?_ (Or.inl (Nat.le_of_ble_eq_true rfl)) | refine Weak.mk ?_ ?_ ?_ ?_ (Or.inr ⟨(by repeat' first | exact trivial | exact Nat.le_of_ble_eq_true rfl | refine And.intro ?_ ?_ | exact hx.2 _ | exact hy.2 _), (by repeat' first | exact trivial | exact Nat.le_of_ble_eq_true rfl | refine And.intro ?_ ?_ | exact hx.2 _ | exact hy.2 _)⟩) | refine Weak.mk ?_ ?_ ?_ ?_ ?_ | refine And.intro ?_ ?_ | with_reducible rfl | exact Nat.le_of_ble_eq_true rfl | refine fr1 ?_ | refine fr2 ?_ ?_ | refine AV.int_congr ?_ | refine AV.bool_congr ?_ | refine AV.str_congr ?_ | refine AV.list_congr ?_ | refine AV.bsl_congr ?_ ?_ | (apply rfl) | refine bx_cons ?_ ?_ | refine bx_map ?_
    simp
  have hkn : i < ks.length → (ks.take (i + 1)).map (fun k => (k, (mget m k).getD [])) = (ks.take i).map (fun k => (k, (mget m k).getD [])) ++ [(ks.getD i [], (mget m (ks.getD i [])).getD [])] := fun h => by
    rw [take_succ' [] h, List.map_append]; rfl
  have hsi := hsl i
  have htl : ((ks.take i).map fun k => (k, (mget m k).getD [])).length ≤ ks.length := by simp; omega
  repeat' first
    | contradiction | exact trivial
    | (conv => whnf
       first | refine Need.mk (fun h => h) ?_ | refine Need.mk rfl ?_ | refine Need.mk ⟨rfl, Nat.le_of_ble_eq_true rfl⟩ ?_ | refine Need.mk (Nat.le_of_ble_eq_true rfl) ?_ | refine Need.fin ?_ | refine Need.mk ?_ ?_ | refine Ix.strsF rfl ?_ | refine Ix.strs rfl ?_ ?_ | refine Cut.strs rfl ?_ ?_ | refine Ix.mapF (fun _ => rfl) ?_ | refine Ix.map (fun _ => rfl) ?_ ?_ | refine Cut.map (fun _ => rfl) ?_ ?_ | refine Fork.yes (by assumption) ?_ | refine Fork.no (by assumption) ?_ | refine Fork.decYes (by omega) ?_ | refine Fork.decNo (by omega) ?_ | refine Fork.dec (fun _ => ?_) (fun _ => ?_) | refine Fork.bne (fun _ => ?_) (fun _ => ?_) | refine Fork.beq (fun _ => ?_) (fun _ => ?_) | refine Fork.seq (fun _ => ?_) (fun _ => ?_) | refine Fork.sne (fun _ => ?_) (fun _ => ?_) | refine Fork.neg (fun _ => ?_) (fun _ => ?_) | refine Fork.mk (fun _ => ?_) (fun _ => ?_) | refine HAlt.mk ?_ ?_ | apply HJoin.mk3 | exact HEnd.mk rfl rfl rfl | refine HEnd.mk ?_ ?_ ?_ | refine Round.mk ?_ | refine NilQ.mk (fun b hb => ?_) | refine forceK_of ?_ | refine forceBx_of ?_ | refine unG_old ?_ | refine unG_gv ?_ | refine Lit.read rfl ?_ | refine FinVal.keep ?_ | refine FinAgg.keep ?_ | refine Final.mk rfl rfl | refine Final.mk ?_ rfl | refine Final.mk ?_ ?_ | refine FinalT.mk ?_ ?_ | refine FinalC.allA ?_)
    | refine AV.bool_congr ?_ | refine AV.int_congr ?_ | refine AV.str_congr ?_ | refine AV.list_congr ?_ | with_reducible rfl | refine fr1 ?_ | refine fr2 ?_ ?_
  all_goals try simp only [length_rows, length_strs, length_oldLL, List.length_map, Int.toNat_natCast] at *
  · intro _; unfold maxLen; omega
  · intro c hc; rw [List.mem_singleton.1 hc]; rfl
  · simp only [List.length_singleton]; omega
  · refine ⟨i + 1, by omega, ?_, by omega⟩
    repeat' first
      | exact trivial | refine Weak.mk ?_ ?_ ?_ ?_ (Or.inl (Nat.le_of_ble_eq_true rfl)) | refine Weak.mk ?_ ?_ ?_ ?_ (Or.inr ⟨(by repeat' first | exact trivial | exact Nat.le_of_ble_eq_true rfl | refine And.intro ?_ ?_ | exact hx.2 _ | exact hy.2 _), (by repeat' first | exact trivial | exact Nat.le_of_ble_eq_true rfl | refine And.intro ?_ ?_ | exact hx.2 _ | exact hy.2 _)⟩) | refine Weak.mk ?_ ?_ ?_ ?_ ?_ | refine And.intro ?_ ?_ | with_reducible rfl | exact Nat.le_of_ble_eq_true rfl | refine fr1 ?_ | refine fr2 ?_ ?_ | refine AV.int_congr ?_ | refine AV.bool_congr ?_ | refine AV.str_congr ?_ | refine AV.list_congr ?_ | refine AV.bsl_congr ?_ ?_ | (apply rfl) | refine bx_cons ?_ ?_ | refine bx_map ?_
    · rw [hkn (by omega)]; exact rows_snoc tPair ((ks.take i).map fun k => (k, (mget m k).getD [])) (ks.getD i [], (mget m (ks.getD i [])).getD [])
    · rw [wrap64 (by omega) (by omega)]; rfl
    · simp only [List.length_take, List.length_singleton]; omega
  · have e : ks.take i = ks := List.take_of_length_le (by omega)
    simp [e, hpm, hlen]
end Go.Proofs.YtfffboofmccfhaaGreat
namespace Go.Proofs.YtfffboofmccfhaaGreat
open Abs
def setR (v x : Str) : List VPair → List VPair
  | [] => [(v, x)]
  | p :: b => if blt v p.1 then (v, x) :: p :: b else p :: setR v x b
def extF (b : List VPair) (v x : Str) : Option (List VPair) :=
  if bindF b && varF v && atomF x then (if (valF b v).2 && decide ((valF b v).1 = x) then some b else if (valF b v).2 || decide (b.length = 6) then none else some (setR v x b)) else none
def matS (e : List VPair) : List (Str × Str) → Option (List VPair)
  | [] => some e
  | q :: l => if atomF q.1 then (if q.1 = q.2 then matS e l else none) else (match extF e q.1 q.2 with | some e' => matS e' l | none => none)
abbrev AscP (b : List VPair) : Prop := b.Pairwise fun p q => p.1 < q.1
theorem bindF_iff (b : List VPair) : bindF b = true ↔ b.length ≤ 6 ∧ (∀ p ∈ b, varF p.1 = true ∧ atomF p.2 = true) ∧ AscP b := by
  constructor
  · intro h
    refine ⟨bindF_len h, fun p hp => ?_, ?_⟩
    · obtain ⟨j, hj⟩ := List.getElem?_of_mem hp
      have hb := bindF_lt h (getElem?_lt hj)
      have e : b.getD j default = p := by simp [List.getD, hj]
      unfold badB at hb
      rw [e] at hb
      simp only [Bool.or_eq_false_iff, Bool.not_eq_false'] at hb
      exact hb.1
    · rw [AscP, List.pairwise_iff_getElem]
      intro i j hi hj hij
      have := bindF_sorted h (j - i - 1) i (by omega)
      rw [show i + (j - i - 1) + 1 = j by omega] at this
      have h2 : blt (b.getD i default).1 (b.getD j default).1 = true := this
      rw [blt_eq, decide_eq_true_eq] at h2
      simpa [List.getD, hi, hj] using h2
  · rintro ⟨h1, h2, h3⟩
    rw [bindF_yes (fun j hj => ?_)]
    · simp; omega
    · have hm : b.getD j default ∈ b := by simp [List.getD, hj]
      obtain ⟨v1, v2⟩ := h2 _ hm
      unfold badB
      rw [v1, v2]
      simp only [Bool.not_true, Bool.false_or, Bool.and_eq_false_iff, decide_eq_false_iff_not, Bool.not_eq_false']
      rcases Nat.eq_zero_or_pos j with rfl | hp
      · left; omega
      · right
        have h4 := List.pairwise_iff_getElem.1 h3 (j - 1) j (by omega) hj (by omega)
        have : blt (b.getD (j - 1) default).1 (b.getD j default).1 = true := by
          rw [blt_eq, decide_eq_true_eq]
          have hj1 : j - 1 < b.length := by omega
          simpa [List.getD, hj, hj1] using h4
        exact this
theorem atom_novar {t : Str} (h : atomF t = true) : varF t = false := by
  cases t with
  | nil => rfl
  | cons c t =>
    have hc : alnum c = true := by
      unfold atomF at h
      rw [List.all_cons, Bool.and_eq_true, Bool.and_eq_true] at h
      exact h.1.1
    cases hv : varF (c :: t) with
    | false => rfl
    | true =>
      unfold varF at hv
      simp only [Bool.and_eq_true, beq_iff_eq, List.getD_cons_zero] at hv
      have h63 : c.toNat = 63 := by have := hv.1.2; omega
      have : c = 63 := UInt8.toNat_inj.1 h63
      rw [this] at hc
      exact absurd hc (by decide)
theorem lookV_mem : ∀ {b : List VPair} {k v : Str}, lookV b k = some v → (k, v) ∈ b
  | [], _, _, h => by cases h
  | p :: b, k, v, h => by
    rw [lookV] at h
    split at h
    · rename_i e; cases h; subst e; simp
    · exact List.mem_cons_of_mem _ (lookV_mem h)
theorem lookV_none : ∀ {b : List VPair} {k : Str}, lookV b k = none → ∀ p ∈ b, p.1 ≠ k
  | [], _, _, p, hp => by simp at hp
  | q :: b, k, h, p, hp => by
    rw [lookV] at h
    split at h
    · cases h
    · rename_i e
      rcases List.mem_cons.1 hp with rfl | hp
      · exact e
      · exact lookV_none h p hp
/-- the list is the map's pairs, in order -/
structure Like (e m : List VPair) : Prop where
  asc : AscP e
  perm : (e.map (·.1)).Perm (m.map (·.1))
  val : ∀ p ∈ e, mget m p.1 = some p.2
theorem mget_key : ∀ {m : List VPair} {k v : Str}, mget m k = some v → k ∈ m.map (·.1)
  | [], _, _, h => by cases h
  | p :: m, k, v, h => by
    rw [mget] at h
    split at h
    · rename_i e; subst e; simp
    · exact List.mem_cons_of_mem _ (mget_key h)
theorem Like.len {e m : List VPair} (h : Like e m) : e.length = m.length := by simpa using h.perm.length_eq
theorem Like.look {e m : List VPair} (h : Like e m) (k : Str) : lookV e k = mget m k := by
  cases h1 : lookV e k with
  | some v => exact (h.val _ (lookV_mem h1)).symm
  | none =>
    cases h2 : mget m k with
    | none => rfl
    | some v =>
      obtain ⟨p, hp, hk⟩ := List.mem_map.1 (h.perm.symm.mem_iff.1 (mget_key h2))
      exact absurd hk (lookV_none h1 p hp)
theorem srt_fix {l : List Str} (h : l.Pairwise fun a b => a < b) : srt l = l := by
  refine List.mergeSort_of_pairwise (h.imp fun hab => ?_)
  simp only [decide_eq_true_eq]
  exact List.le_of_lt hab
theorem Like.eq {e m : List VPair} (h : Like e m) : e = pairsM m := by
  have h1 : srt (m.map (·.1)) = e.map (·.1) := by
    have h2 : srt (m.map (·.1)) = srt (e.map (·.1)) := (mergeSort_of_perm h.perm.symm : _)
    rw [h2, srt_fix (List.pairwise_map.2 h.asc)]
  rw [pairsM, h1, List.map_map]
  have h3 : ∀ p ∈ e, ((fun k => (k, (mget m k).getD [])) ∘ fun p : VPair => p.1) p = id p := fun p hp => by
    show (p.1, (mget m p.1).getD []) = p
    rw [h.val p hp]; rfl
  rw [List.map_congr_left h3, List.map_id]
theorem mem_setR {v x : Str} : ∀ {b : List VPair} {p : VPair}, p ∈ setR v x b ↔ p = (v, x) ∨ p ∈ b
  | [], p => by simp [setR]
  | q :: b, p => by
    rw [setR]
    split
    · simp
    · simp only [List.mem_cons, mem_setR (b := b)]
      constructor
      · rintro (h | h | h) <;> simp [h]
      · rintro (h | h | h) <;> simp [h]
theorem setR_perm {v x : Str} : ∀ b : List VPair, (setR v x b).Perm (b ++ [(v, x)])
  | [] => List.Perm.refl _
  | q :: b => by
    rw [setR]
    split
    · exact (List.perm_append_singleton (v, x) (q :: b)).symm
    · exact (setR_perm b).cons q
theorem setR_asc {v x : Str} : ∀ {b : List VPair}, AscP b → (∀ p ∈ b, p.1 ≠ v) → AscP (setR v x b)
  | [], _, _ => by simp [setR]
  | q :: b, h, hn => by
    obtain ⟨h1, h2⟩ := List.pairwise_cons.1 h
    rw [setR]
    split
    · rename_i hlt
      rw [blt_eq, decide_eq_true_eq] at hlt
      refine List.pairwise_cons.2 ⟨fun p hp => ?_, h⟩
      rcases List.mem_cons.1 hp with rfl | hp
      · exact hlt
      · exact List.lt_trans hlt (h1 p hp)
    · rename_i hlt
      have hlt : blt v q.1 = false := by simpa using hlt
      have h3 : q.1 < v := by
        cases h4 : blt q.1 v with
        | true => rwa [blt_eq, decide_eq_true_eq] at h4
        | false => exact absurd (blt_sto.tri _ _ h4 hlt) (hn q (by simp))
      refine List.pairwise_cons.2 ⟨fun p hp => ?_, setR_asc h2 (fun p hp => hn p (by simp [hp]))⟩
      rcases mem_setR.1 hp with rfl | hp
      · exact h3
      · exact h1 p hp
theorem mget_snoc {m : List VPair} {v x : Str} : ∀ {k : Str}, mget (m ++ [(v, x)]) k = (match mget m k with | some u => some u | none => if v = k then some x else none) := by
  induction m with
  | nil => intro k; rfl
  | cons p m ih =>
    intro k
    rw [List.cons_append, mget, mget]
    split
    · rfl
    · exact ih
theorem Like.set {e m : List VPair} (h : Like e m) {v x : Str} (hn : mget m v = none) : Like (setR v x e) (mput m v x) := by
  have hm : mput m v x = m ++ [(v, x)] := by
    refine (mget_no fun p hp he => ?_).2 x
    have hl : lookV e v = none := by rw [h.look]; exact hn
    obtain ⟨q, hq, hk⟩ := List.mem_map.1 (h.perm.symm.mem_iff.1 (List.mem_map.2 ⟨p, hp, rfl⟩))
    exact lookV_none hl q hq (hk.trans he)
  have hl : lookV e v = none := by rw [h.look]; exact hn
  rw [hm]
  refine ⟨setR_asc h.asc (lookV_none hl), ?_, fun p hp => ?_⟩
  · refine ((setR_perm e).map _).trans ?_
    rw [List.map_append, List.map_append]
    exact h.perm.append (List.Perm.refl _)
  · rw [mget_snoc]
    rcases mem_setR.1 hp with rfl | hp
    · rw [hn]; simp
    · rw [h.val p hp]
theorem turnS_len : ∀ {l : List (Str × Str)} {m m' : List VPair}, turnS m l = some m' → m.length ≤ m'.length
  | [], m, m', h => by cases h; exact Nat.le_refl _
  | q :: l, m, m', h => by
    rw [turnS] at h
    split at h
    · rename_i m1 h1
      refine Nat.le_trans ?_ (turnS_len h)
      unfold turnStep at h1
      split at h1
      · split at h1
        · split at h1
          · cases h1; exact Nat.le_refl _
          · cases h1
        · cases h1
          have : ∀ (m : List VPair) k v, m.length ≤ (mput m k v).length := fun m k v => by
            induction m with
            | nil => simp [mput]
            | cons p m ih => rw [mput]; split <;> simp; exact ih
          exact this _ _ _
      · split at h1
        · cases h1; exact Nat.le_refl _
        · cases h1
    · cases h
def fin6 (o : Option (List VPair)) : Option (List VPair) := match o with | some m => if m.length ≤ 6 then some (pairsM m) else none | none => none
theorem matS_eq : ∀ (l : List (Str × Str)) {e m : List VPair}, Like e m → bindF e = true → (∀ q ∈ l, termF q.1 = true ∧ atomF q.2 = true) → matS e l = fin6 (turnS m l)
  | [], e, m, h, hb, _ => by
    have := h.len
    have := bindF_len hb
    rw [matS, turnS, fin6, if_pos (by omega), ← h.eq]
  | q :: l, e, m, h, hb, hq => by
    obtain ⟨q1, q2⟩ := hq q (by simp)
    have hl := fun r hr => hq r (List.mem_cons_of_mem q hr)
    obtain ⟨t, x⟩ := q
    simp only at q1 q2
    rw [matS, turnS]
    simp only
    by_cases ha : atomF t = true
    · have hv : varF t = false := atom_novar ha
      rw [if_pos ha]
      by_cases htx : t = x
      · rw [if_pos htx, step_eq hv htx]; exact matS_eq l h hb hl
      · rw [if_neg htx, step_no hv htx]; rfl
    · have hv : varF t = true := by simpa [termF, ha] using q1
      have ha : atomF t = false := by simpa using ha
      rw [if_neg (by simp [ha])]
      have hval : valF e t = match mget m t with | some v => (v, true) | none => ([], false) := by
        unfold valF; rw [if_neg (by simp [ha]), if_pos hv, h.look] <;> (cases mget m t <;> rfl)
      unfold extF
      rw [hb, hv, q2, hval]
      cases hg : mget m t with
      | some v =>
        by_cases hvx : v = x
        · rw [step_old hv hg hvx]; simp [hvx]; exact matS_eq l h hb hl
        · rw [step_bad hv hg hvx]; simp [hvx, fin6]
      | none =>
        rw [step_new hv hg]
        by_cases h6 : e.length = 6
        · simp only [Bool.true_and, Bool.false_and, Bool.false_or, h6, decide_true, if_true]
          simp only [Bool.false_eq_true, if_false]
          cases ht : turnS (mput m t x) l with
          | none => rfl
          | some m' =>
            have h1 := turnS_len ht
            have h2 := h.len
            have h3 := (h.set (x := x) hg).len
            have h4 := (setR_perm (v := t) (x := x) e).length_eq
            rw [List.length_append, List.length_singleton] at h4
            rw [fin6, if_neg (by omega)]
        · simp only [Bool.true_and, Bool.false_and, Bool.false_or, h6, decide_false, Bool.false_eq_true, if_false, if_true]
          obtain ⟨b1, b2, b3⟩ := (bindF_iff e).1 hb
          have hn : lookV e t = none := by rw [h.look]; exact hg
          refine matS_eq l (h.set hg) ((bindF_iff _).2 ⟨?_, fun p hp => ?_, (h.set (x := x) hg).asc⟩) hl
          · have h4 := (setR_perm (v := t) (x := x) e).length_eq
            rw [List.length_append, List.length_singleton] at h4
            omega
          · rcases mem_setR.1 hp with rfl | hp
            · exact ⟨hv, q2⟩
            · exact b2 p hp
theorem like_self {b : List VPair} (h : bindF b = true) : Like b b := by
  obtain ⟨_, _, h3⟩ := (bindF_iff b).1 h
  refine ⟨h3, List.Perm.refl _, fun p hp => ?_⟩
  obtain ⟨j, hj⟩ := List.getElem?_of_mem hp
  refine (mget_at ?_ (show b[j]? = some (p.1, p.2) from hj)).1
  refine List.pairwise_map.2 (h3.imp fun hlt he => ?_)
  rw [he] at hlt
  exact List.lt_irrefl _ hlt
theorem var_len {x : Str} (h : varF x = true) : x.length ≤ 9 := by
  unfold varF at h
  simp only [Bool.and_eq_true] at h
  have h2 := h.2
  unfold atomF at h2
  simp only [Bool.and_eq_true, decide_eq_true_eq, List.length_drop] at h2
  have := h2.2.2
  omega
theorem mput_key {k v : Str} : ∀ {m : List VPair} {p : VPair}, p ∈ mput m k v → p.1 = k ∨ p ∈ m
  | [], p, h => by rw [mput] at h; left; rw [List.mem_singleton.1 h]
  | q :: m, p, h => by
    rw [mput] at h
    split at h
    · rcases List.mem_cons.1 h with rfl | h
      · exact .inl rfl
      · exact .inr (List.mem_cons_of_mem _ h)
    · rcases List.mem_cons.1 h with rfl | h
      · exact .inr (by simp)
      · rcases mput_key h with h | h
        · exact .inl h
        · exact .inr (List.mem_cons_of_mem _ h)
theorem turnS_var : ∀ {l : List (Str × Str)} {m m' : List VPair}, turnS m l = some m' → (∀ p ∈ m, varF p.1 = true) → ∀ p ∈ m', varF p.1 = true
  | [], m, m', h, hm => by cases h; exact hm
  | q :: l, m, m', h, hm => by
    rw [turnS] at h
    split at h
    · rename_i m1 h1
      refine turnS_var h ?_
      unfold turnStep at h1
      split at h1
      · rename_i hv
        split at h1
        · split at h1
          · cases h1; exact hm
          · cases h1
        · cases h1
          intro p hp
          rcases mput_key hp with he | hp
          · rw [he]; exact hv
          · exact hm p hp
      · split at h1
        · cases h1; exact hm
        · cases h1
    · cases h
theorem turnF_var {m m' : List VPair} {a x : List Str} (h : turnF m a x = some m') (hm : bindF m = true) : ∀ p ∈ m', p.1.length ≤ 1048576 := fun p hp => by
  unfold turnF at h
  split at h
  · have := var_len (turnS_var h (fun p hp => (((bindF_iff m).1 hm).2.1 p hp).1) p hp)
    omega
  · cases h
theorem extF_bind {b e : List VPair} {v x : Str} (h : extF b v x = some e) : bindF e = true := by
  unfold extF at h
  split at h
  · rename_i hc
    simp only [Bool.and_eq_true] at hc
    obtain ⟨⟨hb, hv⟩, hx⟩ := hc
    split at h
    · cases h; exact hb
    · rename_i h1
      split at h
      · cases h
      · rename_i h2
        cases h
        simp only [Bool.or_eq_true, decide_eq_true_eq, not_or] at h2
        obtain ⟨b1, b2, b3⟩ := (bindF_iff b).1 hb
        have ha : atomF v = false := by
          cases ha : atomF v with
          | false => rfl
          | true => rw [atom_novar ha] at hv; cases hv
        have hn : lookV b v = none := by
          have h3 := h2.1
          unfold valF at h3
          rw [if_neg (by simp [ha]), if_pos hv] at h3
          cases hl : lookV b v with
          | none => rfl
          | some u => rw [hl] at h3; simp at h3
        refine (bindF_iff _).2 ⟨?_, fun p hp => ?_, setR_asc b3 (lookV_none hn)⟩
        · have h4 := (setR_perm (v := v) (x := x) b).length_eq
          rw [List.length_append, List.length_singleton] at h4
          omega
        · rcases mem_setR.1 hp with rfl | hp
          · exact ⟨hv, hx⟩
          · exact b2 p hp
  · cases h
theorem pairs_size : ∀ {b : List VPair}, (∀ p ∈ b, varF p.1 = true ∧ atomF p.2 = true) → listSize tPair b ≤ 17 * b.length
  | [], _ => Nat.zero_le _
  | p :: b, h => by
    have h1 := pairs_size (b := b) (fun q hq => h q (by simp [hq]))
    obtain ⟨hv, ha⟩ := h p (by simp)
    have h2 := var_len hv
    unfold atomF at ha
    simp only [Bool.and_eq_true, decide_eq_true_eq] at ha
    have h3 := ha.2.2
    show (p.1.length + p.2.length) + listSize tPair b ≤ 17 * (b.length + 1)
    omega
theorem bind_size {b : List VPair} (h : bindF b = true) : tPairs.size b ≤ 1048576 := by
  obtain ⟨h1, h2, _⟩ := (bindF_iff b).1 h
  have := pairs_size h2
  rw [tPairs_sz]; omega
end Go.Proofs.YtfffboofmccfhaaGreat
namespace Go.Proofs.YtfffboofmccfhaaGreat
open Abs
def matF (p : VPattern) (f : Fct) (b : List VPair) : Option (List VPair) :=
  if decide (p.1 = f.1) && isPatF p && isFactF f && bindF b then fin6 (turnF b p.2 f.2) else none
theorem own_tup {α : Type} (T : Ty α) (hf : ∀ a, T.fr a = []) (e : ∀ a, T.tk a 0 = oldL (T.q a)) {F : Fr} {t k : Nat} {l : List α} (v : Value) (hv : plainV v = true) (hk : F[k]? = some (t, T.sz, l.length)) :
    ∃ ts, OwnA F [.p [.l t T.sz (l.map T.q), .v v]] [.tup [.list (some k) (rows T l), .val v]] ts ∧ ts.Nodup := by
  have := OwnA.p _ _ (plain_ownA T hf e F t k l hk (.v v hv .nil)) .nil
  rw [List.append_nil] at this
  exact ⟨[k], this, by simp⟩
theorem pMatchFact.own (p : VPattern) (f : Fct) (b : List VPair) (h1 : tPattern.size p ≤ 1048576) (h2 : tFct.size f ≤ 1048576) (h3 : tPairs.size b ≤ 1048576) :
    Abs.Own false Tryz.prog 48 [.agg (oldL (tPattern.q p)), .agg (oldL (tFct.q f)), .list none (pairs b)] (.p [.l 56 2 (((matF p f b).getD []).map tPair.q), .v (.bool (matF p f b).isSome)]) := by
  refine Own.of_irP (code := pMatchFact.code) (rs := pMatchFact.res) (K := pMatchFact.keep) Tryz.func48 rfl (by kernel_rfl) (Nat.le_of_ble_eq_true rfl) (by kernel_rfl) (by kernel_rfl) ?_
  have hx := plainC_old (tPattern.q p)
  have hy := plainC_old (tFct.q f)
  have s1 : tFct.size p ≤ 1048576 := h1
  have s2 := h2
  have s3 := h3
  rw [tFct_size, tStrs_size] at s1 s2
  rw [tPairs_sz] at s3
  generalize ho : matF p f b = o
  repeat' first
    | contradiction | exact trivial
    | (conv => whnf
       first | refine Need.mk (fun h => h) ?_ | refine Need.mk rfl ?_ | refine Need.mk ⟨rfl, Nat.le_of_ble_eq_true rfl⟩ ?_ | refine Need.mk (Nat.le_of_ble_eq_true rfl) ?_ | refine Need.fin ?_ | refine Need.mk ?_ ?_ | refine Ix.strsF rfl ?_ | refine Ix.strs rfl ?_ ?_ | refine Cut.strs rfl ?_ ?_ | refine Ix.mapF (fun _ => rfl) ?_ | refine Ix.map (fun _ => rfl) ?_ ?_ | refine Cut.map (fun _ => rfl) ?_ ?_ | refine Fork.yes (by assumption) ?_ | refine Fork.no (by assumption) ?_ | refine Fork.decYes (by omega) ?_ | refine Fork.decNo (by omega) ?_ | refine Fork.dec (fun _ => ?_) (fun _ => ?_) | refine Fork.bne (fun _ => ?_) (fun _ => ?_) | refine Fork.beq (fun _ => ?_) (fun _ => ?_) | refine Fork.seq (fun _ => ?_) (fun _ => ?_) | refine Fork.sne (fun _ => ?_) (fun _ => ?_) | refine Fork.neg (fun _ => ?_) (fun _ => ?_) | refine Fork.mk (fun _ => ?_) (fun _ => ?_) | refine HAlt.mk ?_ ?_ | apply HJoin.mk3 | exact HEnd.mk rfl rfl rfl | refine HEnd.mk ?_ ?_ ?_ | refine Round.mk ?_ | refine NilQ.mk (fun b hb => ?_) | refine forceK_of ?_ | refine forceBx_of ?_ | refine unG_old ?_ | refine unG_gv ?_ | refine Lit.read rfl ?_ | refine FinVal.keep ?_ | refine FinAgg.keep ?_ | refine Final.mk rfl rfl | refine Final.mk ?_ rfl | refine Final.mk ?_ ?_ | refine FinalT.mk ?_ ?_ | refine FinalC.allA ?_ | refine ACall.scalA _ _ (Ret.weak (pIsPattern.ret _ ?_)) rfl ?_ | refine AQCall.mkA _ _ (fun hg => Ret.weak (pIsPattern.ret _ ?_)) rfl ?_ | refine ACall.scalA _ _ (Ret.weak (pIsFact.ret _ ?_)) rfl ?_ | refine AQCall.mkA _ _ (fun hg => Ret.weak (pIsFact.ret _ ?_)) rfl ?_ | refine ACall.scalA _ _ (Ret.weak (pIsBinding.ret _ ?_)) rfl ?_ | refine AQCall.mkA _ _ (fun hg => Ret.weak (pIsBinding.ret _ ?_)) rfl ?_)
    | refine AV.bool_congr ?_ | refine AV.int_congr ?_ | refine AV.str_congr ?_ | refine AV.list_congr ?_ | with_reducible rfl | refine fr1 ?_ | refine fr2 ?_ ?_
  · exact h1
  · exact h2
  · exact h3
  · rename_i hc
    have : o = none := by
      rw [← ho, matF, if_neg (fun hn => ?_)]
      revert hc hn
      cases hp : decide (p.1 = f.1) <;> cases isPatF p <;> cases isFactF f <;> cases bindF b <;> simp_all
    subst this
    exact own_tup tPair (fun _ => rfl) (fun _ => rfl) (.bool false) rfl rfl
  rename_i hc
  have hc : (decide (p.1 = f.1) && isPatF p && isFactF f && bindF b) = true := by
    revert hc
    cases isPatF p <;> cases isFactF f <;> cases bindF b <;> simp_all
  rw [matF, if_pos hc] at ho
  have hb : bindF b = true := by simp only [Bool.and_eq_true] at hc; exact hc.2
  have hbl := bindF_len hb
  have hmo := pmapOfPairs.lent _ _ hx hy b h3 hb
  have htu := pturnInto.lent _ _ hx hy b p.2 f.2 (by omega) (by omega) (by omega)
  repeat' first
    | contradiction | exact trivial
    | (conv => whnf
       first | refine Need.mk (fun h => h) ?_ | refine Need.mk rfl ?_ | refine Need.mk ⟨rfl, Nat.le_of_ble_eq_true rfl⟩ ?_ | refine Need.mk (Nat.le_of_ble_eq_true rfl) ?_ | refine Need.fin ?_ | refine Need.mk ?_ ?_ | refine Ix.strsF rfl ?_ | refine Ix.strs rfl ?_ ?_ | refine Cut.strs rfl ?_ ?_ | refine Ix.mapF (fun _ => rfl) ?_ | refine Ix.map (fun _ => rfl) ?_ ?_ | refine Cut.map (fun _ => rfl) ?_ ?_ | refine Fork.yes (by assumption) ?_ | refine Fork.no (by assumption) ?_ | refine Fork.decYes (by omega) ?_ | refine Fork.decNo (by omega) ?_ | refine Fork.dec (fun _ => ?_) (fun _ => ?_) | refine Fork.bne (fun _ => ?_) (fun _ => ?_) | refine Fork.beq (fun _ => ?_) (fun _ => ?_) | refine Fork.seq (fun _ => ?_) (fun _ => ?_) | refine Fork.sne (fun _ => ?_) (fun _ => ?_) | refine Fork.neg (fun _ => ?_) (fun _ => ?_) | refine Fork.mk (fun _ => ?_) (fun _ => ?_) | refine HAlt.mk ?_ ?_ | apply HJoin.mk3 | exact HEnd.mk rfl rfl rfl | refine HEnd.mk ?_ ?_ ?_ | refine Round.mk ?_ | refine NilQ.mk (fun b hb => ?_) | refine forceK_of ?_ | refine forceBx_of ?_ | refine unG_old ?_ | refine unG_gv ?_ | refine Lit.read rfl ?_ | refine FinVal.keep ?_ | refine FinAgg.keep ?_ | refine Final.mk rfl rfl | refine Final.mk ?_ rfl | refine Final.mk ?_ ?_ | refine FinalT.mk ?_ ?_ | refine FinalC.allA ?_ | refine ACall.lentE _ _ _ _ _ (Lent.weak (hmo)) (by repeat' first | exact Lends.nil | refine Lends.map _ ?_ | refine Lends.lend _ _ (by first | exact hx.1 | exact hy.1 | exact noTk_old _ | (intro c hc; rw [List.mem_singleton.1 hc]; rfl) | (intro c hc; cases hc; done)) ?_) (by repeat' first | exact SeesL.nil | refine SeesL.cons ?_ ?_ | exact Or.inl ⟨rfl, rfl⟩ | exact Or.inr (Sees0.str _) | exact Or.inr (Sees0.val _) | exact Or.inr (Sees0.olds _ _) | exact Or.inr (Sees0.old _) | exact Or.inr (Sees0.oldagg _)) ?_ | refine ACall.lent rfl _ _ _ (Lent.weak (htu)) (by repeat' first | exact Lends.nil | refine Lends.map _ ?_ | refine Lends.lend _ _ (by first | exact hx.1 | exact hy.1 | exact noTk_old _ | (intro c hc; rw [List.mem_singleton.1 hc]; rfl) | (intro c hc; cases hc; done)) ?_) (by repeat' first | exact SeesL.nil | refine SeesL.cons ?_ ?_ | exact Or.inl ⟨rfl, rfl⟩ | exact Or.inr (Sees0.str _) | exact Or.inr (Sees0.val _) | exact Or.inr (Sees0.olds _ _) | exact Or.inr (Sees0.old _) | exact Or.inr (Sees0.oldagg _)) ?_)
    | refine AV.bool_congr ?_ | refine AV.int_congr ?_ | refine AV.str_congr ?_ | refine AV.list_congr ?_ | with_reducible rfl | refine fr1 ?_ | refine fr2 ?_ ?_
  rintro _ _ _ ⟨m', rfl, rfl, rfl, hm'⟩
  cases ht : turnF b p.2 f.2 with
  | none =>
    rw [ht] at ho
    have ho : none = o := ho
    subst ho
    repeat' first
      | contradiction | exact trivial
      | (conv => whnf
         first | refine Need.mk (fun h => h) ?_ | refine Need.mk rfl ?_ | refine Need.mk ⟨rfl, Nat.le_of_ble_eq_true rfl⟩ ?_ | refine Need.mk (Nat.le_of_ble_eq_true rfl) ?_ | refine Need.fin ?_ | refine Need.mk ?_ ?_ | refine Ix.strsF rfl ?_ | refine Ix.strs rfl ?_ ?_ | refine Cut.strs rfl ?_ ?_ | refine Ix.mapF (fun _ => rfl) ?_ | refine Ix.map (fun _ => rfl) ?_ ?_ | refine Cut.map (fun _ => rfl) ?_ ?_ | refine Fork.yes (by assumption) ?_ | refine Fork.no (by assumption) ?_ | refine Fork.decYes (by omega) ?_ | refine Fork.decNo (by omega) ?_ | refine Fork.dec (fun _ => ?_) (fun _ => ?_) | refine Fork.bne (fun _ => ?_) (fun _ => ?_) | refine Fork.beq (fun _ => ?_) (fun _ => ?_) | refine Fork.seq (fun _ => ?_) (fun _ => ?_) | refine Fork.sne (fun _ => ?_) (fun _ => ?_) | refine Fork.neg (fun _ => ?_) (fun _ => ?_) | refine Fork.mk (fun _ => ?_) (fun _ => ?_) | refine HAlt.mk ?_ ?_ | apply HJoin.mk3 | exact HEnd.mk rfl rfl rfl | refine HEnd.mk ?_ ?_ ?_ | refine Round.mk ?_ | refine NilQ.mk (fun b hb => ?_) | refine forceK_of ?_ | refine forceBx_of ?_ | refine unG_old ?_ | refine unG_gv ?_ | refine Lit.read rfl ?_ | refine FinVal.keep ?_ | refine FinAgg.keep ?_ | refine Final.mk rfl rfl | refine Final.mk ?_ rfl | refine Final.mk ?_ ?_ | refine FinalT.mk ?_ ?_ | refine FinalC.allA ?_)
      | refine AV.bool_congr ?_ | refine AV.int_congr ?_ | refine AV.str_congr ?_ | refine AV.list_congr ?_ | with_reducible rfl | refine fr1 ?_ | refine fr2 ?_ ?_
    all_goals exact own_tup tPair (fun _ => rfl) (fun _ => rfl) (.bool false) rfl rfl
  | some m0 =>
    have e := hm' m0 ht
    subst e
    rw [ht] at ho
    have hkl := turnF_var ht hb
    repeat' first
      | contradiction | exact trivial
      | (conv => whnf
         first | refine Need.mk (fun h => h) ?_ | refine Need.mk rfl ?_ | refine Need.mk ⟨rfl, Nat.le_of_ble_eq_true rfl⟩ ?_ | refine Need.mk (Nat.le_of_ble_eq_true rfl) ?_ | refine Need.fin ?_ | refine Need.mk ?_ ?_ | refine Ix.strsF rfl ?_ | refine Ix.strs rfl ?_ ?_ | refine Cut.strs rfl ?_ ?_ | refine Ix.mapF (fun _ => rfl) ?_ | refine Ix.map (fun _ => rfl) ?_ ?_ | refine Cut.map (fun _ => rfl) ?_ ?_ | refine Fork.yes (by assumption) ?_ | refine Fork.no (by assumption) ?_ | refine Fork.decYes (by omega) ?_ | refine Fork.decNo (by omega) ?_ | refine Fork.dec (fun _ => ?_) (fun _ => ?_) | refine Fork.bne (fun _ => ?_) (fun _ => ?_) | refine Fork.beq (fun _ => ?_) (fun _ => ?_) | refine Fork.seq (fun _ => ?_) (fun _ => ?_) | refine Fork.sne (fun _ => ?_) (fun _ => ?_) | refine Fork.neg (fun _ => ?_) (fun _ => ?_) | refine Fork.mk (fun _ => ?_) (fun _ => ?_) | refine HAlt.mk ?_ ?_ | apply HJoin.mk3 | exact HEnd.mk rfl rfl rfl | refine HEnd.mk ?_ ?_ ?_ | refine Round.mk ?_ | refine NilQ.mk (fun b hb => ?_) | refine forceK_of ?_ | refine forceBx_of ?_ | refine unG_old ?_ | refine unG_gv ?_ | refine Lit.read rfl ?_ | refine FinVal.keep ?_ | refine FinAgg.keep ?_ | refine Final.mk rfl rfl | refine Final.mk ?_ rfl | refine Final.mk ?_ ?_ | refine FinalT.mk ?_ ?_ | refine FinalC.allA ?_)
      | refine AV.bool_congr ?_ | refine AV.int_congr ?_ | refine AV.str_congr ?_ | refine AV.list_congr ?_ | with_reducible rfl | refine fr1 ?_ | refine fr2 ?_ ?_
    · rename_i hc2
      have : o = none := by
        rw [← ho, fin6, if_neg (fun hl => ?_)]
        revert hc2; simp; omega
      subst this
      exact own_tup tPair (fun _ => rfl) (fun _ => rfl) (.bool false) rfl rfl
    rename_i hc2
    have hl6 : m'.length ≤ 6 := by revert hc2; simp; omega
    rw [fin6, if_pos hl6] at ho
    subst ho
    have hpp := ppairsOfMap.lent _ _ hx hy m' (by omega) hkl
    have hpl : (pairsM m').length = m'.length := by rw [pairsM, List.length_map, srt_len, List.length_map]
    repeat' first
      | contradiction | exact trivial
      | (conv => whnf
         first | refine Need.mk (fun h => h) ?_ | refine Need.mk rfl ?_ | refine Need.mk ⟨rfl, Nat.le_of_ble_eq_true rfl⟩ ?_ | refine Need.mk (Nat.le_of_ble_eq_true rfl) ?_ | refine Need.fin ?_ | refine Need.mk ?_ ?_ | refine Ix.strsF rfl ?_ | refine Ix.strs rfl ?_ ?_ | refine Cut.strs rfl ?_ ?_ | refine Ix.mapF (fun _ => rfl) ?_ | refine Ix.map (fun _ => rfl) ?_ ?_ | refine Cut.map (fun _ => rfl) ?_ ?_ | refine Fork.yes (by assumption) ?_ | refine Fork.no (by assumption) ?_ | refine Fork.decYes (by omega) ?_ | refine Fork.decNo (by omega) ?_ | refine Fork.dec (fun _ => ?_) (fun _ => ?_) | refine Fork.bne (fun _ => ?_) (fun _ => ?_) | refine Fork.beq (fun _ => ?_) (fun _ => ?_) | refine Fork.seq (fun _ => ?_) (fun _ => ?_) | refine Fork.sne (fun _ => ?_) (fun _ => ?_) | refine Fork.neg (fun _ => ?_) (fun _ => ?_) | refine Fork.mk (fun _ => ?_) (fun _ => ?_) | refine HAlt.mk ?_ ?_ | apply HJoin.mk3 | exact HEnd.mk rfl rfl rfl | refine HEnd.mk ?_ ?_ ?_ | refine Round.mk ?_ | refine NilQ.mk (fun b hb => ?_) | refine forceK_of ?_ | refine forceBx_of ?_ | refine unG_old ?_ | refine unG_gv ?_ | refine Lit.read rfl ?_ | refine FinVal.keep ?_ | refine FinAgg.keep ?_ | refine Final.mk rfl rfl | refine Final.mk ?_ rfl | refine Final.mk ?_ ?_ | refine FinalT.mk ?_ ?_ | refine FinalC.allA ?_ | refine ACall.lentE _ _ _ _ _ (hpp) (by repeat' first | exact Lends.nil | refine Lends.map _ ?_ | refine Lends.lend _ _ (by first | exact hx.1 | exact hy.1 | exact noTk_old _ | (intro c hc; rw [List.mem_singleton.1 hc]; rfl) | (intro c hc; cases hc; done)) ?_) (by repeat' first | exact SeesL.nil | refine SeesL.cons ?_ ?_ | exact Or.inl ⟨rfl, rfl⟩ | exact Or.inr (Sees0.str _) | exact Or.inr (Sees0.val _) | exact Or.inr (Sees0.olds _ _) | exact Or.inr (Sees0.old _) | exact Or.inr (Sees0.oldagg _)) ?_)
      | refine AV.bool_congr ?_ | refine AV.int_congr ?_ | refine AV.str_congr ?_ | refine AV.list_congr ?_ | with_reducible rfl | refine fr1 ?_ | refine fr2 ?_ ?_
    exact own_tup tPair (fun _ => rfl) (fun _ => rfl) (l := pairsM m') (k := 0) (.bool true) rfl (by rw [hpl]; rfl)
end Go.Proofs.YtfffboofmccfhaaGreat
namespace Go.Proofs.YtfffboofmccfhaaGreat
namespace Abs
theorem ACall.mkTB {α : Type} (T : Ty α) {C : Con} {lend : Bool} {f : Nat} {vs : List AV} {b : List ABox} {fr : Fr} {k : AV → List ABox → Fr → Prop} (ys : List AV) (l : List α) (v : Value) (F : Fr) (h : C.ret f ys (.tup [.list (some 0) (rows T l), .val v]) F) (hv : SeesL Sees0 vs ys)
    (hk : k (.tup [.list (some fr.length) (rows T l), .val v]) b (fr ++ F)) : ACall C lend f vs b fr k :=
  .mk ys _ _ h hv (by
    show k (.tup [.list (some (0 + fr.length)) (mapTLL _ (rows T l)), .val v]) _ _
    rw [rows, mapTLL_old, Nat.zero_add]; exact hk)
end Abs
open Abs
theorem sCopyB.ret (b : List VPair) (h : tPairs.size b ≤ 1048576) : sCopyB.Ret [.list none (pairs b)] (.list (some 0) (pairs b)) [(56, 2, b.length)] := by
  refine sCopyB.of rfl ?_
  rw [tPairs_sz] at h
  repeat' first
    | contradiction | exact trivial
    | (conv => whnf
       first | refine Need.mk (fun h => h) ?_ | refine Need.mk rfl ?_ | refine Need.mk ⟨rfl, Nat.le_of_ble_eq_true rfl⟩ ?_ | refine Need.mk (Nat.le_of_ble_eq_true rfl) ?_ | refine Need.fin ?_ | refine Need.mk ?_ ?_ | refine Ix.strsF rfl ?_ | refine Ix.strs rfl ?_ ?_ | refine Cut.strs rfl ?_ ?_ | refine Ix.mapF (fun _ => rfl) ?_ | refine Ix.map (fun _ => rfl) ?_ ?_ | refine Cut.map (fun _ => rfl) ?_ ?_ | refine Fork.yes (by assumption) ?_ | refine Fork.no (by assumption) ?_ | refine Fork.decYes (by omega) ?_ | refine Fork.decNo (by omega) ?_ | refine Fork.dec (fun _ => ?_) (fun _ => ?_) | refine Fork.bne (fun _ => ?_) (fun _ => ?_) | refine Fork.beq (fun _ => ?_) (fun _ => ?_) | refine Fork.seq (fun _ => ?_) (fun _ => ?_) | refine Fork.sne (fun _ => ?_) (fun _ => ?_) | refine Fork.neg (fun _ => ?_) (fun _ => ?_) | refine Fork.mk (fun _ => ?_) (fun _ => ?_) | refine HAlt.mk ?_ ?_ | apply HJoin.mk3 | exact HEnd.mk rfl rfl rfl | refine HEnd.mk ?_ ?_ ?_ | refine Round.mk ?_ | refine NilQ.mk (fun b hb => ?_) | refine forceK_of ?_ | refine forceBx_of ?_ | refine unG_old ?_ | refine unG_gv ?_ | refine Lit.read rfl ?_ | refine FinVal.keep ?_ | refine FinAgg.keep ?_ | refine Final.mk rfl rfl | refine Final.mk ?_ rfl | refine Final.mk ?_ ?_ | refine FinalT.mk ?_ ?_ | refine FinalC.allA ?_)
    | refine AV.bool_congr ?_ | refine AV.int_congr ?_ | refine AV.str_congr ?_ | refine AV.list_congr ?_ | with_reducible rfl | refine fr1 ?_ | refine fr2 ?_ ?_
  all_goals try simp only [length_rows, length_strs, length_oldLL, List.length_map, Int.toNat_natCast] at *
  · exact rows_cut tPair b
  · simp only [List.length_nil]; omega
  · rfl
  · simp
theorem gtr_blt (a v : Str) : (!(Op.bytesLess a v || a == v)) = blt v a := by
  show (!(blt a v || a == v)) = blt v a
  cases h : blt v a with
  | true =>
    have h1 := STO.asymm blt_sto h
    have h2 : (a == v) = false := by
      rw [beq_eq_false_iff_ne]; rintro rfl; rw [blt_sto.irrefl] at h; cases h
    rw [h1, h2]; rfl
  | false =>
    cases h1 : blt a v with
    | true => rfl
    | false =>
      have := blt_sto.tri a v h1 h
      subst this; simp
theorem sSet.ret (b : List VPair) (v x : Str) (h : tPairs.size b ≤ 1048576) : sSet.Ret [.list none (pairs b), .str v, .str x] (.list (some 0) (pairs (setR v x b))) [(56, 2, (setR v x b).length)] := by
  refine sSet.of rfl ?_
  rw [tPairs_sz] at h
  have hsl := (setR_perm (v := v) (x := x) b).length_eq
  rw [List.length_append, List.length_singleton] at hsl
  repeat' first
    | contradiction | exact trivial
    | (conv => whnf
       first | refine Need.mk (fun h => h) ?_ | refine Need.mk rfl ?_ | refine Need.mk ⟨rfl, Nat.le_of_ble_eq_true rfl⟩ ?_ | refine Need.mk (Nat.le_of_ble_eq_true rfl) ?_ | refine Need.fin ?_ | refine Need.mk ?_ ?_ | refine Ix.strsF rfl ?_ | refine Ix.strs rfl ?_ ?_ | refine Cut.strs rfl ?_ ?_ | refine Ix.mapF (fun _ => rfl) ?_ | refine Ix.map (fun _ => rfl) ?_ ?_ | refine Cut.map (fun _ => rfl) ?_ ?_ | refine Fork.yes (by assumption) ?_ | refine Fork.no (by assumption) ?_ | refine Fork.decYes (by omega) ?_ | refine Fork.decNo (by omega) ?_ | refine Fork.dec (fun _ => ?_) (fun _ => ?_) | refine Fork.bne (fun _ => ?_) (fun _ => ?_) | refine Fork.beq (fun _ => ?_) (fun _ => ?_) | refine Fork.seq (fun _ => ?_) (fun _ => ?_) | refine Fork.sne (fun _ => ?_) (fun _ => ?_) | refine Fork.neg (fun _ => ?_) (fun _ => ?_) | refine Fork.mk (fun _ => ?_) (fun _ => ?_) | refine HAlt.mk ?_ ?_ | apply HJoin.mk3 | exact HEnd.mk rfl rfl rfl | refine HEnd.mk ?_ ?_ ?_ | refine Round.mk ?_ | refine NilQ.mk (fun b hb => ?_) | refine forceK_of ?_ | refine forceBx_of ?_ | refine unG_old ?_ | refine unG_gv ?_ | refine Lit.read rfl ?_ | refine FinVal.keep ?_ | refine FinAgg.keep ?_ | refine Final.mk rfl rfl | refine Final.mk ?_ rfl | refine Final.mk ?_ ?_ | refine FinalT.mk ?_ ?_ | refine FinalC.allA ?_)
    | refine AV.bool_congr ?_ | refine AV.int_congr ?_ | refine AV.str_congr ?_ | refine AV.list_congr ?_ | with_reducible rfl | refine fr1 ?_ | refine fr2 ?_ ?_
  refine ALoop.mk (Nat × List VPair × Bool) (fun i => ⟨[(0, .list none (pairs b)), (1, .str v), (2, .str x), (7, .list (some 0) (pairs i.2.1)), (8, .val (.bool i.2.2)), (9, .val (.int .i64 i.1))], [], [(56, 2, i.2.1.length)]⟩)
    (fun i => i.1 ≤ b.length ∧ i.2.1 ++ (if i.2.2 then b.drop i.1 else setR v x (b.drop i.1)) = setR v x b) (fun i => b.length - i.1) ⟨(0, [], false), ⟨Nat.zero_le _, rfl⟩, ?_⟩ (fun i hi => ?_)
  · repeat' first
      | exact trivial | refine Weak.mk ?_ ?_ ?_ ?_ (Or.inl (Nat.le_of_ble_eq_true rfl)) | refine Weak.mk ?_ ?_ ?_ ?_ (Or.inr ⟨(by repeat' first | exact trivial | exact Nat.le_of_ble_eq_true rfl | refine And.intro ?_ ?_), (by repeat' first | exact trivial | exact Nat.le_of_ble_eq_true rfl | refine And.intro ?_ ?_)⟩) | refine Weak.mk ?_ ?_ ?_ ?_ ?_ | refine And.intro ?_ ?_ | with_reducible rfl | exact Nat.le_of_ble_eq_true rfl | refine fr1 ?_ | refine fr2 ?_ ?_ | refine AV.int_congr ?_ | refine AV.bool_congr ?_ | refine AV.str_congr ?_ | refine AV.list_congr ?_ | refine AV.bsl_congr ?_ ?_ | (apply rfl)
  obtain ⟨i, o, d⟩ := i
  obtain ⟨hi, ho⟩ := hi
  simp only at hi ho
  have hol : o.length ≤ b.length + 1 := by
    have := congrArg List.length ho
    rw [List.length_append, hsl] at this; omega
  have hdr : i < b.length → b.drop i = b.getD i default :: b.drop (i + 1) := fun hlt => by
    rw [List.drop_eq_getElem_cons hlt]; simp [List.getD, hlt]
  repeat' first
    | contradiction | exact trivial
    | (conv => whnf
       first | refine Need.mk (fun h => h) ?_ | refine Need.mk rfl ?_ | refine Need.mk ⟨rfl, Nat.le_of_ble_eq_true rfl⟩ ?_ | refine Need.mk (Nat.le_of_ble_eq_true rfl) ?_ | refine Need.fin ?_ | refine Need.mk ?_ ?_ | refine Ix.strsF rfl ?_ | refine Ix.strs rfl ?_ ?_ | refine Cut.strs rfl ?_ ?_ | refine Ix.mapF (fun _ => rfl) ?_ | refine Ix.map (fun _ => rfl) ?_ ?_ | refine Cut.map (fun _ => rfl) ?_ ?_ | refine Fork.yes (by assumption) ?_ | refine Fork.no (by assumption) ?_ | refine Fork.decYes (by omega) ?_ | refine Fork.decNo (by omega) ?_ | refine Fork.dec (fun _ => ?_) (fun _ => ?_) | refine Fork.bne (fun _ => ?_) (fun _ => ?_) | refine Fork.beq (fun _ => ?_) (fun _ => ?_) | refine Fork.seq (fun _ => ?_) (fun _ => ?_) | refine Fork.sne (fun _ => ?_) (fun _ => ?_) | refine Fork.neg (fun _ => ?_) (fun _ => ?_) | refine Fork.mk (fun _ => ?_) (fun _ => ?_) | refine HAlt.mk ?_ ?_ | apply HJoin.mk3 | exact HEnd.mk rfl rfl rfl | refine HEnd.mk ?_ ?_ ?_ | refine Round.mk ?_ | refine NilQ.mk (fun b hb => ?_) | refine forceK_of ?_ | refine forceBx_of ?_ | refine unG_old ?_ | refine unG_gv ?_ | refine Lit.read rfl ?_ | refine FinVal.keep ?_ | refine FinAgg.keep ?_ | refine Final.mk rfl rfl | refine Final.mk ?_ rfl | refine Final.mk ?_ ?_ | refine FinalT.mk ?_ ?_ | refine FinalC.allA ?_)
    | refine AV.bool_congr ?_ | refine AV.int_congr ?_ | refine AV.str_congr ?_ | refine AV.list_congr ?_ | with_reducible rfl | refine fr1 ?_ | refine fr2 ?_ ?_
  all_goals try simp only [length_rows, length_strs, length_oldLL, List.length_map, Int.toNat_natCast] at *
  · intro c hc; rw [List.mem_singleton.1 hc]; rfl
  · simp only [List.length_singleton]; omega
  · simp
  · intro c hc; rw [List.mem_singleton.1 hc]; rfl
  · simp only [List.length_append, List.length_singleton, length_rows]; omega
  · rename_i hc h1
    rw [gtr_blt, Bool.and_eq_true, Bool.not_eq_true'] at hc
    obtain ⟨hd, hb⟩ := hc
    subst hd
    refine ⟨(i + 1, (o ++ [(v, x)]) ++ [b.getD i default], true), ⟨by simp only; omega, ?_⟩, ?_, by simp only; omega⟩
    · rw [hdr (by omega)] at ho
      simp only [Bool.false_eq_true, if_false, setR, hb, if_true] at ho
      simp only [if_true, List.append_assoc, List.singleton_append]
      exact ho
    · repeat' first
        | exact trivial | refine Weak.mk ?_ ?_ ?_ ?_ (Or.inl (Nat.le_of_ble_eq_true rfl)) | refine Weak.mk ?_ ?_ ?_ ?_ (Or.inr ⟨(by repeat' first | exact trivial | exact Nat.le_of_ble_eq_true rfl | refine And.intro ?_ ?_), (by repeat' first | exact trivial | exact Nat.le_of_ble_eq_true rfl | refine And.intro ?_ ?_)⟩) | refine Weak.mk ?_ ?_ ?_ ?_ ?_ | refine And.intro ?_ ?_ | with_reducible rfl | exact Nat.le_of_ble_eq_true rfl | refine fr1 ?_ | refine fr2 ?_ ?_ | refine AV.int_congr ?_ | refine AV.bool_congr ?_ | refine AV.str_congr ?_ | refine AV.list_congr ?_ | refine AV.bsl_congr ?_ ?_ | (apply rfl)
      · exact (congrArg (· ++ _) (rows_snoc tPair o (v, x))).trans (rows_snoc tPair (o ++ [(v, x)]) _)
      · rw [wrap64 (by omega) (by omega)]; rfl
      · simp [length_rows]
  · intro c hc; rw [List.mem_singleton.1 hc]; rfl
  · simp only [List.length_singleton]; omega
  · rename_i hc h1
    refine ⟨(i + 1, o ++ [b.getD i default], d), ⟨by simp only; omega, ?_⟩, ?_, by simp only; omega⟩
    · rw [hdr (by omega)] at ho
      cases d with
      | true => simpa using ho
      | false =>
        rw [gtr_blt] at hc
        have hb : blt v (b.getD i default).1 = false := by simpa using hc
        simp only [Bool.false_eq_true, if_false, setR, hb] at ho
        simp only [Bool.false_eq_true, if_false, List.append_assoc, List.singleton_append]
        exact ho
    · repeat' first
        | exact trivial | refine Weak.mk ?_ ?_ ?_ ?_ (Or.inl (Nat.le_of_ble_eq_true rfl)) | refine Weak.mk ?_ ?_ ?_ ?_ (Or.inr ⟨(by repeat' first | exact trivial | exact Nat.le_of_ble_eq_true rfl | refine And.intro ?_ ?_), (by repeat' first | exact trivial | exact Nat.le_of_ble_eq_true rfl | refine And.intro ?_ ?_)⟩) | refine Weak.mk ?_ ?_ ?_ ?_ ?_ | refine And.intro ?_ ?_ | with_reducible rfl | exact Nat.le_of_ble_eq_true rfl | refine fr1 ?_ | refine fr2 ?_ ?_ | refine AV.int_congr ?_ | refine AV.bool_congr ?_ | refine AV.str_congr ?_ | refine AV.list_congr ?_ | refine AV.bsl_congr ?_ ?_ | (apply rfl)
      · exact rows_snoc tPair o _
      · rw [wrap64 (by omega) (by omega)]; rfl
      · simp
  · intro c hc; rw [List.mem_singleton.1 hc]; rfl
  · simp only [List.length_singleton]; omega
  · rename_i hd h1
    subst hd
    have e : b.drop i = [] := List.drop_eq_nil_of_le (by omega)
    rw [e] at ho
    have ho : o ++ [(v, x)] = setR v x b := ho
    rw [← ho]; exact rows_snoc tPair o (v, x)
  · rename_i hd h1
    subst hd
    have e : b.drop i = [] := List.drop_eq_nil_of_le (by omega)
    rw [e] at ho
    have ho : o ++ [(v, x)] = setR v x b := ho
    rw [← ho, List.length_append]; rfl
  · rename_i hd h1
    subst hd
    have e : b.drop i = [] := List.drop_eq_nil_of_le (by omega)
    rw [e] at ho
    have ho : o ++ [] = setR v x b := ho
    rw [← ho, List.append_nil]
  · rename_i hd h1
    subst hd
    have e : b.drop i = [] := List.drop_eq_nil_of_le (by omega)
    rw [e] at ho
    have ho : o ++ [] = setR v x b := ho
    rw [← ho, List.append_nil]
theorem ext_none {b : List VPair} {v x : Str} (h : (!bindF b || !varF v || !atomF x) = true) : extF b v x = none := by
  unfold extF
  rw [if_neg]
  intro hc
  simp only [Bool.and_eq_true] at hc
  simp [hc.1.1, hc.1.2, hc.2] at h
theorem ext_ok {b : List VPair} {v x : Str} (h : (!bindF b || !varF v || !atomF x) = false) : extF b v x = if (valF b v).2 && decide ((valF b v).1 = x) then some b else if (valF b v).2 || decide (b.length = 6) then none else some (setR v x b) := by
  unfold extF
  rw [if_pos]
  simpa using h
theorem ext_same {b : List VPair} {v x : Str} (h : (!bindF b || !varF v || !atomF x) = false) (hs : ((valF b v).2 && (valF b v).1 == x) = true) : extF b v x = some b := by
  rw [ext_ok h, if_pos (by simpa using hs)]
theorem ext_full {b : List VPair} {v x : Str} (h : (!bindF b || !varF v || !atomF x) = false) (hs : ((valF b v).2 && (valF b v).1 == x) = false) (h6 : ((valF b v).2 || (b.length : Int) == 6) = true) : extF b v x = none := by
  rw [ext_ok h, if_neg (by simpa using hs), if_pos]
  simp only [Bool.or_eq_true, decide_eq_true_eq, beq_iff_eq] at h6 ⊢
  exact h6.imp id (by omega)
theorem ext_new {b : List VPair} {v x : Str} (h : (!bindF b || !varF v || !atomF x) = false) (hs : ((valF b v).2 && (valF b v).1 == x) = false) (h6 : ((valF b v).2 || (b.length : Int) == 6) = false) : extF b v x = some (setR v x b) := by
  rw [ext_ok h, if_neg (by simpa using hs), if_neg]
  simp only [Bool.or_eq_true, decide_eq_true_eq, Bool.or_eq_false_iff, beq_eq_false_iff_ne] at h6 ⊢
  rintro (h7 | h7)
  · rw [h6.1] at h7; cases h7
  · exact h6.2 (by omega)
theorem sExtend.ret (b : List VPair) (v x : Str) (h : tPairs.size b ≤ 1048576) (hv : v.length ≤ 1048576) (hx : x.length ≤ 1048576) :
    sExtend.Ret [.list none (pairs b), .str v, .str x] (.tup [.list (some 0) (pairs ((extF b v x).getD [])), .val (.bool (extF b v x).isSome)]) [(56, 2, ((extF b v x).getD []).length)] := by
  refine sExtend.of rfl ?_
  generalize ho : extF b v x = o
  repeat' first
    | contradiction | exact trivial
    | (conv => whnf
       first | refine Need.mk (fun h => h) ?_ | refine Need.mk rfl ?_ | refine Need.mk ⟨rfl, Nat.le_of_ble_eq_true rfl⟩ ?_ | refine Need.mk (Nat.le_of_ble_eq_true rfl) ?_ | refine Need.fin ?_ | refine Need.mk ?_ ?_ | refine Ix.strsF rfl ?_ | refine Ix.strs rfl ?_ ?_ | refine Cut.strs rfl ?_ ?_ | refine Ix.mapF (fun _ => rfl) ?_ | refine Ix.map (fun _ => rfl) ?_ ?_ | refine Cut.map (fun _ => rfl) ?_ ?_ | refine Fork.yes (by assumption) ?_ | refine Fork.no (by assumption) ?_ | refine Fork.decYes (by omega) ?_ | refine Fork.decNo (by omega) ?_ | refine Fork.dec (fun _ => ?_) (fun _ => ?_) | refine Fork.bne (fun _ => ?_) (fun _ => ?_) | refine Fork.beq (fun _ => ?_) (fun _ => ?_) | refine Fork.seq (fun _ => ?_) (fun _ => ?_) | refine Fork.sne (fun _ => ?_) (fun _ => ?_) | refine Fork.neg (fun _ => ?_) (fun _ => ?_) | refine Fork.mk (fun _ => ?_) (fun _ => ?_) | refine HAlt.mk ?_ ?_ | apply HJoin.mk3 | exact HEnd.mk rfl rfl rfl | refine HEnd.mk ?_ ?_ ?_ | refine Round.mk ?_ | refine NilQ.mk (fun b hb => ?_) | refine forceK_of ?_ | refine forceBx_of ?_ | refine unG_old ?_ | refine unG_gv ?_ | refine Lit.read rfl ?_ | refine FinVal.keep ?_ | refine FinAgg.keep ?_ | refine Final.mk rfl rfl | refine Final.mk ?_ rfl | refine Final.mk ?_ ?_ | refine FinalT.mk ?_ ?_ | refine FinalC.allA ?_ | refine ACall.scalA _ _ (sIsBinding.ret _ ?_) rfl ?_ | refine AQCall.mkA _ _ (fun hg => sIsBinding.ret _ ?_) rfl ?_ | refine ACall.scalA _ _ (sIsVar.ret _ ?_) rfl ?_ | refine AQCall.mkA _ _ (fun hg => sIsVar.ret _ ?_) rfl ?_ | refine ACall.scalA _ _ (sIsAtom.ret _ ?_) rfl ?_ | refine AQCall.mkA _ _ (fun hg => sIsAtom.ret _ ?_) rfl ?_ | refine ACall.scalA _ _ (sValueOf.ret _ _ ?_ ?_) rfl ?_ | refine AQCall.mkA _ _ (fun hg => sValueOf.ret _ _ ?_ ?_) rfl ?_ | refine ACall.mkLA _ _ _ _ (sCopyB.ret _ ?_) ?_ | refine ACall.mkLA _ _ _ _ (sSet.ret _ _ _ ?_) ?_)
    | refine AV.bool_congr ?_ | refine AV.int_congr ?_ | refine AV.str_congr ?_ | refine AV.list_congr ?_ | with_reducible rfl | refine fr1 ?_ | refine fr2 ?_ ?_
  · exact h
  · exact hv
  · exact hx
  · rename_i hc; rw [ext_none hc] at ho; subst ho; rfl
  · rename_i hc; rw [ext_none hc] at ho; subst ho; rfl
  · exact h
  · exact hv
  · exact h
  · rename_i hc hs; rw [ext_same hc hs] at ho; subst ho; rfl
  · rename_i hc hs; rw [ext_same hc hs] at ho; subst ho; rfl
  all_goals (try simp only [length_rows] at *)
  · rename_i hc hs h6; rw [ext_full hc hs h6] at ho; subst ho; rfl
  · rename_i hc hs h6; rw [ext_full hc hs h6] at ho; subst ho; rfl
  · exact h
  · rename_i hc hs h6; rw [ext_new hc hs h6] at ho; subst ho; rfl
  · rename_i hc hs h6; rw [ext_new hc hs h6] at ho; subst ho; rfl
theorem matS_no {e : List VPair} {t x : Str} {l : List (Str × Str)} (ha : atomF t = true) (h : t ≠ x) : matS e ((t, x) :: l) = none := by simp [matS, ha, h]
theorem matS_at {e : List VPair} {t x : Str} {l : List (Str × Str)} (ha : atomF t = true) (h : t = x) : matS e ((t, x) :: l) = matS e l := by subst h; simp [matS, ha]
theorem matS_var {e : List VPair} {t x : Str} {l : List (Str × Str)} (ha : atomF t = false) : matS e ((t, x) :: l) = match extF e t x with | some e' => matS e' l | none => none := by simp only [matS, ha, Bool.false_eq_true, if_false] <;> (cases extF e t x <;> rfl)
def matM (p : VPattern) (f : Fct) (b : List VPair) : Option (List VPair) :=
  if isPatF p && isFactF f && bindF b && decide (p.1 = f.1) && decide (p.2.length = f.2.length) then matS b (p.2.zip f.2) else none
theorem own_tup' {α : Type} (T : Ty α) (hf : ∀ a, T.fr a = []) (e : ∀ a, T.tk a 0 = oldL (T.q a)) {F : Fr} {t k : Nat} {l : List α} (v : Value) (hv : plainV v = true) (hk : F[k]? = some (t, T.sz, l.length)) :
    ∃ ts, OwnA F [.p [.l t T.sz (l.map T.q), .v v]] [.tup [.list (some k) (rows T l), .val v]] ts ∧ ts.Nodup := by
  have := OwnA.p _ _ (plain_ownA T hf e F t k l hk (.v v hv .nil)) .nil
  rw [List.append_nil] at this
  exact ⟨[k], this, by simp⟩
theorem sMatchFact.own (p : VPattern) (f : Fct) (b : List VPair) (h1 : tPattern.size p ≤ 1048576) (h2 : tFct.size f ≤ 1048576) (h3 : tPairs.size b ≤ 1048576) :
    sMatchFact.Own [.agg (oldL (tPattern.q p)), .agg (oldL (tFct.q f)), .list none (pairs b)] (.p [.l 56 2 (((matM p f b).getD []).map tPair.q), .v (.bool (matM p f b).isSome)]) := by
  refine Own.of_irP (code := sMatchFact.code) (rs := sMatchFact.res) (K := sMatchFact.keep) Tryz.func37 rfl (by kernel_rfl) (Nat.le_of_ble_eq_true rfl) (by kernel_rfl) (by kernel_rfl) ?_
  have s1 : tFct.size p ≤ 1048576 := h1
  have s2 := h2
  have s3 := h3
  rw [tFct_size, tStrs_size] at s1 s2
  rw [tPairs_sz] at s3
  generalize ho : matM p f b = o
  have ecast : ((p.2.length : Int) != (f.2.length : Int)) = (p.2.length != f.2.length) := by rw [Bool.eq_iff_iff]; simp; omega
  repeat' first
    | contradiction | exact trivial
    | (conv => whnf
       first | refine Need.mk (fun h => h) ?_ | refine Need.mk rfl ?_ | refine Need.mk ⟨rfl, Nat.le_of_ble_eq_true rfl⟩ ?_ | refine Need.mk (Nat.le_of_ble_eq_true rfl) ?_ | refine Need.fin ?_ | refine Need.mk ?_ ?_ | refine Ix.strsF rfl ?_ | refine Ix.strs rfl ?_ ?_ | refine Cut.strs rfl ?_ ?_ | refine Ix.mapF (fun _ => rfl) ?_ | refine Ix.map (fun _ => rfl) ?_ ?_ | refine Cut.map (fun _ => rfl) ?_ ?_ | refine Fork.yes (by assumption) ?_ | refine Fork.no (by assumption) ?_ | refine Fork.decYes (by omega) ?_ | refine Fork.decNo (by omega) ?_ | refine Fork.dec (fun _ => ?_) (fun _ => ?_) | refine Fork.bne (fun _ => ?_) (fun _ => ?_) | refine Fork.beq (fun _ => ?_) (fun _ => ?_) | refine Fork.seq (fun _ => ?_) (fun _ => ?_) | refine Fork.sne (fun _ => ?_) (fun _ => ?_) | refine Fork.neg (fun _ => ?_) (fun _ => ?_) | refine Fork.mk (fun _ => ?_) (fun _ => ?_) | refine HAlt.mk ?_ ?_ | apply HJoin.mk3 | exact HEnd.mk rfl rfl rfl | refine HEnd.mk ?_ ?_ ?_ | refine Round.mk ?_ | refine NilQ.mk (fun b hb => ?_) | refine forceK_of ?_ | refine forceBx_of ?_ | refine unG_old ?_ | refine unG_gv ?_ | refine Lit.read rfl ?_ | refine FinVal.keep ?_ | refine FinAgg.keep ?_ | refine Final.mk rfl rfl | refine Final.mk ?_ rfl | refine Final.mk ?_ ?_ | refine FinalT.mk ?_ ?_ | refine FinalC.allA ?_ | refine ACall.scalA _ _ (sIsPattern.ret _ ?_) rfl ?_ | refine AQCall.mkA _ _ (fun hg => sIsPattern.ret _ ?_) rfl ?_ | refine ACall.scalA _ _ (sIsFact.ret _ ?_) rfl ?_ | refine AQCall.mkA _ _ (fun hg => sIsFact.ret _ ?_) rfl ?_ | refine ACall.scalA _ _ (sIsBinding.ret _ ?_) rfl ?_ | refine AQCall.mkA _ _ (fun hg => sIsBinding.ret _ ?_) rfl ?_ | refine ACall.mkLA _ _ _ _ (sCopyB.ret _ ?_) ?_)
    | refine AV.bool_congr ?_ | refine AV.int_congr ?_ | refine AV.str_congr ?_ | refine AV.list_congr ?_ | with_reducible rfl | refine fr1 ?_ | refine fr2 ?_ ?_
  · exact h1
  · exact h2
  · exact h3
  · rename_i hc
    simp only [length_oldLL, List.length_map, ecast] at hc
    have : o = none := by
      rw [← ho, matM, if_neg (fun hn => ?_)]
      revert hc hn
      cases isPatF p <;> cases isFactF f <;> cases bindF b <;> simp_all
      rintro (h | h) h'
      · exact absurd h' h
      · exact h
    subst this
    exact own_tup' tPair (fun _ => rfl) (fun _ => rfl) (.bool false) rfl rfl
  · exact h3
  rename_i hc
  simp only [length_oldLL, List.length_map, ecast] at hc
  have hc : (isPatF p && isFactF f && bindF b && decide (p.1 = f.1) && decide (p.2.length = f.2.length)) = true := by
    revert hc
    cases isPatF p <;> cases isFactF f <;> cases bindF b <;> simp_all
  rw [matM, if_pos hc] at ho
  simp only [Bool.and_eq_true, decide_eq_true_eq] at hc
  obtain ⟨⟨⟨⟨hpat, hfct⟩, hb⟩, _⟩, hlen⟩ := hc
  refine ALoop.mk (Nat × Fr × Nat × List VPair) (fun i => ⟨[(0, .agg (oldL (tPattern.q p))), (1, .agg (oldL (tFct.q f))), (2, .list none (pairs b)), (3, .bptr 0 0), (4, .bptr 1 0), (8, .list (some i.2.2.1) (pairs i.2.2.2)), (9, .val (.int .i64 i.1))], [.cells .var (oldL (tPattern.q p)), .cells .var (oldL (tFct.q f))], i.2.1⟩)
    (fun i => i.1 ≤ p.2.length ∧ i.2.1[i.2.2.1]? = some (56, 2, i.2.2.2.length) ∧ bindF i.2.2.2 = true ∧ matS i.2.2.2 ((p.2.zip f.2).drop i.1) = o) (fun i => p.2.length - i.1) ⟨(0, [(56, 2, b.length)], 0, b), ⟨Nat.zero_le _, rfl, hb, ho⟩, ?_⟩ (fun i hi => ?_)
  · repeat' first
      | exact trivial | refine Weak.mk ?_ ?_ ?_ ?_ (Or.inl (Nat.le_of_ble_eq_true rfl)) | refine Weak.mk ?_ ?_ ?_ ?_ (Or.inr ⟨(by repeat' first | exact trivial | exact Nat.le_of_ble_eq_true rfl | refine And.intro ?_ ?_), (by repeat' first | exact trivial | exact Nat.le_of_ble_eq_true rfl | refine And.intro ?_ ?_)⟩) | refine Weak.mk ?_ ?_ ?_ ?_ ?_ | refine And.intro ?_ ?_ | with_reducible rfl | exact Nat.le_of_ble_eq_true rfl | refine fr1 ?_ | refine fr2 ?_ ?_ | refine AV.int_congr ?_ | refine AV.bool_congr ?_ | refine AV.str_congr ?_ | refine AV.list_congr ?_ | refine AV.bsl_congr ?_ ?_ | (apply rfl)
  obtain ⟨i, F, k, e⟩ := i
  obtain ⟨hi, hF, hbe, hm⟩ := hi
  simp only at hi hF hbe hm
  have hal := str_le' p.2 i
  have hzl := str_le' f.2 i
  repeat' first
    | contradiction | exact trivial
    | (conv => whnf
       first | refine Need.mk (fun h => h) ?_ | refine Need.mk rfl ?_ | refine Need.mk ⟨rfl, Nat.le_of_ble_eq_true rfl⟩ ?_ | refine Need.mk (Nat.le_of_ble_eq_true rfl) ?_ | refine Need.fin ?_ | refine Need.mk ?_ ?_ | refine Ix.strsF rfl ?_ | refine Ix.strs rfl ?_ ?_ | refine Cut.strs rfl ?_ ?_ | refine Ix.mapF (fun _ => rfl) ?_ | refine Ix.map (fun _ => rfl) ?_ ?_ | refine Cut.map (fun _ => rfl) ?_ ?_ | refine Fork.yes (by assumption) ?_ | refine Fork.no (by assumption) ?_ | refine Fork.decYes (by omega) ?_ | refine Fork.decNo (by omega) ?_ | refine Fork.dec (fun _ => ?_) (fun _ => ?_) | refine Fork.bne (fun _ => ?_) (fun _ => ?_) | refine Fork.beq (fun _ => ?_) (fun _ => ?_) | refine Fork.seq (fun _ => ?_) (fun _ => ?_) | refine Fork.sne (fun _ => ?_) (fun _ => ?_) | refine Fork.neg (fun _ => ?_) (fun _ => ?_) | refine Fork.mk (fun _ => ?_) (fun _ => ?_) | refine HAlt.mk ?_ ?_ | apply HJoin.mk3 | exact HEnd.mk rfl rfl rfl | refine HEnd.mk ?_ ?_ ?_ | refine Round.mk ?_ | refine NilQ.mk (fun b hb => ?_) | refine forceK_of ?_ | refine forceBx_of ?_ | refine unG_old ?_ | refine unG_gv ?_ | refine Lit.read rfl ?_ | refine FinVal.keep ?_ | refine FinAgg.keep ?_ | refine Final.mk rfl rfl | refine Final.mk ?_ rfl | refine Final.mk ?_ ?_ | refine FinalT.mk ?_ ?_ | refine FinalC.allA ?_ | refine ACall.scalA _ _ (sIsAtom.ret _ ?_) rfl ?_ | refine AQCall.mkA _ _ (fun hg => sIsAtom.ret _ ?_) rfl ?_ | refine ACall.mkTB tPair _ _ _ _ (sExtend.ret _ _ _ ?_ ?_ ?_) (by repeat' first | exact SeesL.nil | refine SeesL.cons ?_ ?_ | exact SeesB.of0 (Sees0.val _) | exact SeesB.of0 (Sees0.str _) | exact SeesB.of0 (Sees0.olds _ _) | exact SeesB.of0 (Sees0.old _) | exact SeesB.of0 (Sees0.oldagg _) | exact SeesB.of0 Sees0.nil | exact Sees0.val _ | exact Sees0.str _ | exact Sees0.olds _ _ | exact Sees0.old _ | exact Sees0.oldagg _ | exact Sees0.nil | exact SeesB.of0 (Sees0.any _) | assumption | exact sees_gv _ _ _ (by assumption) (by first | assumption | exact BoxIn.last _ _ | exact BoxIn.more (BoxIn.last _ _) _) | refine SeesB.agg ?_ | refine Sees0.agg ?_ | exact SeesB.of0 (Sees0.clo SeesL.nil SeesL.nil) | exact Sees0.clo SeesL.nil SeesL.nil | exact SeesB.of0 (Sees0.list rfl) | exact Sees0.list rfl) ?_)
    | refine AV.bool_congr ?_ | refine AV.int_congr ?_ | refine AV.str_congr ?_ | refine AV.list_congr ?_ | with_reducible rfl | refine fr1 ?_ | refine fr2 ?_ ?_
  all_goals (try simp only [length_oldLL, List.length_map, Int.toNat_natCast] at *)
  · omega
  · rename_i ha hne hlt
    rw [zip_drop (by omega) (by omega), matS_no ha hne] at hm
    subst hm
    exact own_tup' tPair (fun _ => rfl) (fun _ => rfl) (.bool false) rfl (by simp; rfl)
  · rename_i ha heq hlt
    rw [zip_drop (by omega) (by omega), matS_at ha heq] at hm
    refine ⟨(i + 1, F, k, e), ⟨by simp only; omega, hF, hbe, hm⟩, ?_, by simp only; omega⟩
    repeat' first
      | exact trivial | refine Weak.mk ?_ ?_ ?_ ?_ (Or.inl (Nat.le_of_ble_eq_true rfl)) | refine Weak.mk ?_ ?_ ?_ ?_ (Or.inr ⟨(by repeat' first | exact trivial | exact Nat.le_of_ble_eq_true rfl | refine And.intro ?_ ?_), (by repeat' first | exact trivial | exact Nat.le_of_ble_eq_true rfl | refine And.intro ?_ ?_)⟩) | refine Weak.mk ?_ ?_ ?_ ?_ ?_ | refine And.intro ?_ ?_ | with_reducible rfl | exact Nat.le_of_ble_eq_true rfl | refine fr1 ?_ | refine fr2 ?_ ?_ | refine AV.int_congr ?_ | refine AV.bool_congr ?_ | refine AV.str_congr ?_ | refine AV.list_congr ?_ | refine AV.bsl_congr ?_ ?_ | (apply rfl)
    rw [wrap64 (by omega) (by omega)]; rfl
  · exact bind_size hbe
  · omega
  · omega
  · rename_i ha hno hlt
    have hx := Option.isSome_eq_false_iff.1 hno
    rw [zip_drop (by omega) (by omega), matS_var ha, Option.isNone_iff_eq_none.1 hx] at hm
    have hm : none = o := hm
    subst hm
    exact own_tup' tPair (fun _ => rfl) (fun _ => rfl) (.bool false) rfl (by simp; rfl)
  · rename_i ha hso hlt
    obtain ⟨e', he⟩ := Option.isSome_iff_exists.1 hso
    rw [zip_drop (by omega) (by omega), matS_var ha, he] at hm
    have hm : matS e' ((p.2.zip f.2).drop (i + 1)) = o := hm
    refine ⟨(i + 1, F ++ [(56, 2, e'.length)], F.length, e'), ⟨by simp only; omega, by simp, extF_bind he, hm⟩, ?_, by simp only; omega⟩
    rw [he]
    repeat' first
      | exact trivial | refine Weak.mk ?_ ?_ ?_ ?_ (Or.inl (Nat.le_of_ble_eq_true rfl)) | refine Weak.mk ?_ ?_ ?_ ?_ (Or.inr ⟨(by repeat' first | exact trivial | exact Nat.le_of_ble_eq_true rfl | refine And.intro ?_ ?_), (by repeat' first | exact trivial | exact Nat.le_of_ble_eq_true rfl | refine And.intro ?_ ?_)⟩) | refine Weak.mk ?_ ?_ ?_ ?_ ?_ | refine And.intro ?_ ?_ | with_reducible rfl | exact Nat.le_of_ble_eq_true rfl | refine fr1 ?_ | refine fr2 ?_ ?_ | refine AV.int_congr ?_ | refine AV.bool_congr ?_ | refine AV.str_congr ?_ | refine AV.list_congr ?_ | refine AV.bsl_congr ?_ ?_ | (apply rfl)
    rw [wrap64 (by omega) (by omega)]; rfl
  · have e0 : (p.2.zip f.2).drop i = [] := List.drop_eq_nil_of_le (by simp; omega)
    rw [e0, matS] at hm
    subst hm
    exact own_tup' tPair (fun _ => rfl) (fun _ => rfl) (l := e) (.bool true) rfl hF
end Go.Proofs.YtfffboofmccfhaaGreat
namespace Go.Proofs.YtfffboofmccfhaaGreat
open Abs
theorem matM_eq (p : VPattern) (f : Fct) (b : List VPair) : matM p f b = matF p f b := by
  unfold matM matF
  by_cases hc : (decide (p.1 = f.1) && isPatF p && isFactF f && bindF b) = true
  · rw [if_pos hc]
    have hc' := hc
    simp only [Bool.and_eq_true] at hc'
    obtain ⟨⟨⟨h1, h2⟩, h3⟩, h4⟩ := hc'
    rw [h1, h2, h3, h4]
    simp only [Bool.true_and, decide_eq_true_eq]
    unfold turnF
    by_cases hl : p.2.length = f.2.length
    · rw [if_pos hl, if_pos hl]
      refine matS_eq _ (like_self h4) h4 (fun q hq => ?_)
      have h5 : p.2.all termF = true := by
        unfold isPatF tupF at h2; simp only [Bool.and_eq_true] at h2; exact h2.2
      have h6 : f.2.all atomF = true := by
        unfold isFactF at h3; simp only [Bool.and_eq_true] at h3; exact h3.2
      obtain ⟨t, x⟩ := q
      have h7 := List.of_mem_zip hq
      exact ⟨List.all_eq_true.1 h5 t h7.1, List.all_eq_true.1 h6 x h7.2⟩
    · rw [if_neg hl, if_neg hl]; rfl
  · rw [if_neg hc, if_neg]
    intro hn
    apply hc
    simp only [Bool.and_eq_true] at hn ⊢
    obtain ⟨⟨⟨⟨a, b⟩, c⟩, d⟩, _⟩ := hn
    exact ⟨⟨⟨d, a⟩, b⟩, c⟩
end Go.Proofs.YtfffboofmccfhaaGreat
namespace Go.Proofs.YtfffboofmccfhaaGreat
open Abs
def mchF (p : VPattern) (b : List VPair) (l : List Fct) : List Fct := l.filter fun f => (matM p f b).isSome
theorem mch_yes {p : VPattern} {b : List VPair} {l : List Fct} {i : Nat} (hi : i < l.length) (h : (matM p (l.getD i default) b).isSome = true) : mchF p b (l.take (i + 1)) = mchF p b (l.take i) ++ [l.getD i default] := by
  rw [take_succ' default hi, mchF, List.filter_append]
  simp only [List.filter_cons, h]; simp [mchF]
theorem mch_no {p : VPattern} {b : List VPair} {l : List Fct} {i : Nat} (hi : i < l.length) (h : (matM p (l.getD i default) b).isSome = false) : mchF p b (l.take (i + 1)) = mchF p b (l.take i) := by
  rw [take_succ' default hi, mchF, List.filter_append]
  simp only [List.filter_cons, h]; simp [mchF]
theorem mch_len (p : VPattern) (b : List VPair) (l : List Fct) (i : Nat) : (mchF p b (l.take i)).length ≤ l.length := by
  refine Nat.le_trans (List.length_filter_le _ _) ?_
  rw [List.length_take]; omega
theorem ok_mat (l : List VPair) (v : Bool) : okT (.p [.l 56 2 (l.map tPair.q), .v (.bool v)]) = true := by
  have := ok_list tPair 56 l
  simp [okT, okTL] at this ⊢
  exact this
theorem sMatchingFacts.ret (p : VPattern) (b : List VPair) (l : List Fct) (h1 : tPattern.size p ≤ 1048576) (h2 : tPairs.size b ≤ 1048576) (h : tFcts.size l ≤ 1048576) :
    sMatchingFacts.Ret [.agg (oldL (tPattern.q p)), .list none (pairs b), .list none (facts l)] (.list (some 0) (tks tFct (mchF p b l) 1)) (accFr (mchF p b l)) := by
  refine sMatchingFacts.of rfl ?_
  rw [tFcts_size] at h
  repeat' first
    | contradiction | exact trivial
    | (conv => whnf
       first | refine Need.mk (fun h => h) ?_ | refine Need.mk rfl ?_ | refine Need.mk ⟨rfl, Nat.le_of_ble_eq_true rfl⟩ ?_ | refine Need.mk (Nat.le_of_ble_eq_true rfl) ?_ | refine Need.fin ?_ | refine Need.mk ?_ ?_ | refine Ix.strsF rfl ?_ | refine Ix.strs rfl ?_ ?_ | refine Cut.strs rfl ?_ ?_ | refine Ix.mapF (fun _ => rfl) ?_ | refine Ix.map (fun _ => rfl) ?_ ?_ | refine Cut.map (fun _ => rfl) ?_ ?_ | refine Fork.yes (by assumption) ?_ | refine Fork.no (by assumption) ?_ | refine Fork.decYes (by omega) ?_ | refine Fork.decNo (by omega) ?_ | refine Fork.dec (fun _ => ?_) (fun _ => ?_) | refine Fork.bne (fun _ => ?_) (fun _ => ?_) | refine Fork.beq (fun _ => ?_) (fun _ => ?_) | refine Fork.seq (fun _ => ?_) (fun _ => ?_) | refine Fork.sne (fun _ => ?_) (fun _ => ?_) | refine Fork.neg (fun _ => ?_) (fun _ => ?_) | refine Fork.mk (fun _ => ?_) (fun _ => ?_) | refine HAlt.mk ?_ ?_ | apply HJoin.mk3 | exact HEnd.mk rfl rfl rfl | refine HEnd.mk ?_ ?_ ?_ | refine Round.mk ?_ | refine NilQ.mk (fun b hb => ?_) | refine forceK_of ?_ | refine forceBx_of ?_ | refine unG_old ?_ | refine unG_gv ?_ | refine Lit.read rfl ?_ | refine FinVal.keep ?_ | refine FinAgg.keep ?_ | refine Final.mk rfl rfl | refine Final.mk ?_ rfl | refine Final.mk ?_ ?_ | refine FinalT.mk ?_ ?_ | refine FinalC.allA ?_)
    | refine AV.bool_congr ?_ | refine AV.int_congr ?_ | refine AV.str_congr ?_ | refine AV.list_congr ?_ | with_reducible rfl | refine fr1 ?_ | refine fr2 ?_ ?_
  refine ALoop.mk Nat (fun i => ⟨[(0, .agg (oldL (tPattern.q p))), (1, .list none (pairs b)), (2, .list none (facts l)), (3, .bptr 0 0), (7, .list (some 0) (tks tFct (mchF p b (l.take i)) 1)), (8, .val (.int .i64 i))], [.cells .var (oldL (tPattern.q p))], accFr (mchF p b (l.take i))⟩) (fun i => i ≤ l.length) (fun i => l.length - i) ⟨0, Nat.zero_le _, ?_⟩ (fun i hi => ?_)
  · repeat' first
      | exact trivial | refine Weak.mk ?_ ?_ ?_ ?_ (Or.inl (Nat.le_of_ble_eq_true rfl)) | refine Weak.mk ?_ ?_ ?_ ?_ (Or.inr ⟨(by repeat' first | exact trivial | exact Nat.le_of_ble_eq_true rfl | refine And.intro ?_ ?_), (by repeat' first | exact trivial | exact Nat.le_of_ble_eq_true rfl | refine And.intro ?_ ?_)⟩) | refine Weak.mk ?_ ?_ ?_ ?_ ?_ | refine And.intro ?_ ?_ | with_reducible rfl | exact Nat.le_of_ble_eq_true rfl | refine fr1 ?_ | refine fr2 ?_ ?_ | refine AV.int_congr ?_ | refine AV.bool_congr ?_ | refine AV.str_congr ?_ | refine AV.list_congr ?_ | refine AV.bsl_congr ?_ ?_ | (apply rfl)
  have hlen := mch_len p b l i
  have hsz : i < l.length → tFct.size (l.getD i default) ≤ 1048576 := fun hi => by have := fct_le hi; omega
  by_cases hi' : i < l.length
  rotate_left
  · repeat' first
      | contradiction | exact trivial
      | (conv => whnf
         first | refine Need.mk (fun h => h) ?_ | refine Need.mk rfl ?_ | refine Need.mk ⟨rfl, Nat.le_of_ble_eq_true rfl⟩ ?_ | refine Need.mk (Nat.le_of_ble_eq_true rfl) ?_ | refine Need.fin ?_ | refine Need.mk ?_ ?_ | refine Ix.strsF rfl ?_ | refine Ix.strs rfl ?_ ?_ | refine Cut.strs rfl ?_ ?_ | refine Ix.mapF (fun _ => rfl) ?_ | refine Ix.map (fun _ => rfl) ?_ ?_ | refine Cut.map (fun _ => rfl) ?_ ?_ | refine Fork.yes (by assumption) ?_ | refine Fork.no (by assumption) ?_ | refine Fork.decYes (by omega) ?_ | refine Fork.decNo (by omega) ?_ | refine Fork.dec (fun _ => ?_) (fun _ => ?_) | refine Fork.bne (fun _ => ?_) (fun _ => ?_) | refine Fork.beq (fun _ => ?_) (fun _ => ?_) | refine Fork.seq (fun _ => ?_) (fun _ => ?_) | refine Fork.sne (fun _ => ?_) (fun _ => ?_) | refine Fork.neg (fun _ => ?_) (fun _ => ?_) | refine Fork.mk (fun _ => ?_) (fun _ => ?_) | refine HAlt.mk ?_ ?_ | apply HJoin.mk3 | exact HEnd.mk rfl rfl rfl | refine HEnd.mk ?_ ?_ ?_ | refine Round.mk ?_ | refine NilQ.mk (fun b hb => ?_) | refine forceK_of ?_ | refine forceBx_of ?_ | refine unG_old ?_ | refine unG_gv ?_ | refine Lit.read rfl ?_ | refine FinVal.keep ?_ | refine FinAgg.keep ?_ | refine Final.mk rfl rfl | refine Final.mk ?_ rfl | refine Final.mk ?_ ?_ | refine FinalT.mk ?_ ?_ | refine FinalC.allA ?_)
      | refine AV.bool_congr ?_ | refine AV.int_congr ?_ | refine AV.str_congr ?_ | refine AV.list_congr ?_ | with_reducible rfl | refine fr1 ?_ | refine fr2 ?_ ?_
    all_goals try simp only [length_rows, length_strs, length_oldLL, List.length_map, Int.toNat_natCast] at *
    all_goals first
      | omega
      | (rw [List.take_of_length_le (by omega)]; done)
      | (rename_i h9; omega)
  have hm := sMatchFact.own p (l.getD i default) b h1 (hsz hi') h2
  have hok := ok_mat ((matM p (l.getD i default) b).getD []) (matM p (l.getD i default) b).isSome
  repeat' first
    | contradiction | exact trivial
    | (conv => whnf
       first | refine Need.mk (fun h => h) ?_ | refine Need.mk rfl ?_ | refine Need.mk ⟨rfl, Nat.le_of_ble_eq_true rfl⟩ ?_ | refine Need.mk (Nat.le_of_ble_eq_true rfl) ?_ | refine Need.fin ?_ | refine Need.mk ?_ ?_ | refine Ix.strsF rfl ?_ | refine Ix.strs rfl ?_ ?_ | refine Cut.strs rfl ?_ ?_ | refine Ix.mapF (fun _ => rfl) ?_ | refine Ix.map (fun _ => rfl) ?_ ?_ | refine Cut.map (fun _ => rfl) ?_ ?_ | refine Fork.yes (by assumption) ?_ | refine Fork.no (by assumption) ?_ | refine Fork.decYes (by omega) ?_ | refine Fork.decNo (by omega) ?_ | refine Fork.dec (fun _ => ?_) (fun _ => ?_) | refine Fork.bne (fun _ => ?_) (fun _ => ?_) | refine Fork.beq (fun _ => ?_) (fun _ => ?_) | refine Fork.seq (fun _ => ?_) (fun _ => ?_) | refine Fork.sne (fun _ => ?_) (fun _ => ?_) | refine Fork.neg (fun _ => ?_) (fun _ => ?_) | refine Fork.mk (fun _ => ?_) (fun _ => ?_) | refine HAlt.mk ?_ ?_ | apply HJoin.mk3 | exact HEnd.mk rfl rfl rfl | refine HEnd.mk ?_ ?_ ?_ | refine Round.mk ?_ | refine NilQ.mk (fun b hb => ?_) | refine forceK_of ?_ | refine forceBx_of ?_ | refine unG_old ?_ | refine unG_gv ?_ | refine Lit.read rfl ?_ | refine FinVal.keep ?_ | refine FinAgg.keep ?_ | refine Final.mk rfl rfl | refine Final.mk ?_ rfl | refine Final.mk ?_ ?_ | refine FinalT.mk ?_ ?_ | refine FinalC.allA ?_ | refine ACall.oldA _ _ (hm) ?_ | refine ACall.mkFct _ _ (sCopy.ret _ ?_) (by repeat' first | exact SeesL.nil | refine SeesL.cons ?_ ?_ | exact SeesB.of0 (Sees0.val _) | exact SeesB.of0 (Sees0.str _) | exact SeesB.of0 (Sees0.olds _ _) | exact SeesB.of0 (Sees0.old _) | exact SeesB.of0 (Sees0.oldagg _) | exact SeesB.of0 Sees0.nil | exact Sees0.val _ | exact Sees0.str _ | exact Sees0.olds _ _ | exact Sees0.old _ | exact Sees0.oldagg _ | exact Sees0.nil | exact SeesB.of0 (Sees0.any _) | assumption | exact sees_gv _ _ _ (by assumption) (by first | assumption | exact BoxIn.last _ _ | exact BoxIn.more (BoxIn.last _ _) _) | refine SeesB.agg ?_ | refine Sees0.agg ?_ | exact SeesB.of0 (Sees0.clo SeesL.nil SeesL.nil) | exact Sees0.clo SeesL.nil SeesL.nil | exact SeesB.of0 (Sees0.list rfl) | exact Sees0.list rfl) ?_)
    | refine AV.bool_congr ?_ | refine AV.int_congr ?_ | refine AV.str_congr ?_ | refine AV.list_congr ?_ | with_reducible rfl | refine fr1 ?_ | refine fr2 ?_ ?_
  all_goals try simp only [length_rows, length_strs, length_oldLL, List.length_map, Int.toNat_natCast] at *
  · exact hsz hi'
  · rw [length_tks]
  · intro c hc; rw [List.mem_singleton.1 hc]; exact tFct.htk _ _
  · rw [length_tks]; simp only [List.length_singleton]; omega
  · have h1 : (matM p (l.getD i default) b).isSome = true := by assumption
    refine ⟨i + 1, by omega, ?_, by omega⟩
    repeat' first
      | exact trivial | refine Weak.mk ?_ ?_ ?_ ?_ (Or.inl (Nat.le_of_ble_eq_true rfl)) | refine Weak.mk ?_ ?_ ?_ ?_ (Or.inr ⟨(by repeat' first | exact trivial | exact Nat.le_of_ble_eq_true rfl | refine And.intro ?_ ?_), (by repeat' first | exact trivial | exact Nat.le_of_ble_eq_true rfl | refine And.intro ?_ ?_)⟩) | refine Weak.mk ?_ ?_ ?_ ?_ ?_ | refine And.intro ?_ ?_ | with_reducible rfl | exact Nat.le_of_ble_eq_true rfl | refine fr1 ?_ | refine fr2 ?_ ?_ | refine AV.int_congr ?_ | refine AV.bool_congr ?_ | refine AV.str_congr ?_ | refine AV.list_congr ?_ | refine AV.bsl_congr ?_ ?_ | (apply rfl)
    · rw [acc_snoc, mch_yes hi' h1]
    · rw [wrap64 (by omega) (by omega)]; rfl
    · rw [length_tks, mch_yes hi' h1]; exact accFr_snoc _ _
  · have h1 : (matM p (l.getD i default) b).isSome = false := by assumption
    refine ⟨i + 1, by omega, ?_, by omega⟩
    repeat' first
      | exact trivial | refine Weak.mk ?_ ?_ ?_ ?_ (Or.inl (Nat.le_of_ble_eq_true rfl)) | refine Weak.mk ?_ ?_ ?_ ?_ (Or.inr ⟨(by repeat' first | exact trivial | exact Nat.le_of_ble_eq_true rfl | refine And.intro ?_ ?_), (by repeat' first | exact trivial | exact Nat.le_of_ble_eq_true rfl | refine And.intro ?_ ?_)⟩) | refine Weak.mk ?_ ?_ ?_ ?_ ?_ | refine And.intro ?_ ?_ | with_reducible rfl | exact Nat.le_of_ble_eq_true rfl | refine fr1 ?_ | refine fr2 ?_ ?_ | refine AV.int_congr ?_ | refine AV.bool_congr ?_ | refine AV.str_congr ?_ | refine AV.list_congr ?_ | refine AV.bsl_congr ?_ ?_ | (apply rfl)
    · rw [mch_no hi' h1]
    · rw [wrap64 (by omega) (by omega)]; rfl
    · rw [mch_no hi' h1]
  all_goals (exfalso; omega)
theorem pMatchingFacts.ret (p : VPattern) (b : List VPair) (l : List Fct) (h1 : tPattern.size p ≤ 1048576) (h2 : tPairs.size b ≤ 1048576) (h : tFcts.size l ≤ 1048576) :
    pMatchingFacts.RetN [.agg (oldL (tPattern.q p)), .list none (pairs b), .list none (facts l)] (.list (some 0) (tks tFct (mchF p b l) 1)) (accFr (mchF p b l)) := by
  refine pMatchingFacts.of rfl ?_
  rw [tFcts_size] at h
  repeat' first
    | contradiction | exact trivial
    | (conv => whnf
       first | refine Need.mk (fun h => h) ?_ | refine Need.mk rfl ?_ | refine Need.mk ⟨rfl, Nat.le_of_ble_eq_true rfl⟩ ?_ | refine Need.mk (Nat.le_of_ble_eq_true rfl) ?_ | refine Need.fin ?_ | refine Need.mk ?_ ?_ | refine Ix.strsF rfl ?_ | refine Ix.strs rfl ?_ ?_ | refine Cut.strs rfl ?_ ?_ | refine Ix.mapF (fun _ => rfl) ?_ | refine Ix.map (fun _ => rfl) ?_ ?_ | refine Cut.map (fun _ => rfl) ?_ ?_ | refine Fork.yes (by assumption) ?_ | refine Fork.no (by assumption) ?_ | refine Fork.decYes (by omega) ?_ | refine Fork.decNo (by omega) ?_ | refine Fork.dec (fun _ => ?_) (fun _ => ?_) | refine Fork.bne (fun _ => ?_) (fun _ => ?_) | refine Fork.beq (fun _ => ?_) (fun _ => ?_) | refine Fork.seq (fun _ => ?_) (fun _ => ?_) | refine Fork.sne (fun _ => ?_) (fun _ => ?_) | refine Fork.neg (fun _ => ?_) (fun _ => ?_) | refine Fork.mk (fun _ => ?_) (fun _ => ?_) | refine HAlt.mk ?_ ?_ | apply HJoin.mk3 | exact HEnd.mk rfl rfl rfl | refine HEnd.mk ?_ ?_ ?_ | refine Round.mk ?_ | refine NilQ.mk (fun b hb => ?_) | refine forceK_of ?_ | refine forceBx_of ?_ | refine unG_old ?_ | refine unG_gv ?_ | refine Lit.read rfl ?_ | refine FinVal.keep ?_ | refine FinAgg.keep ?_ | refine Final.mk rfl rfl | refine Final.mk ?_ rfl | refine Final.mk ?_ ?_ | refine FinalT.mk ?_ ?_ | refine FinalC.allA ?_)
    | refine AV.bool_congr ?_ | refine AV.int_congr ?_ | refine AV.str_congr ?_ | refine AV.list_congr ?_ | with_reducible rfl | refine fr1 ?_ | refine fr2 ?_ ?_
  refine ALoop.mk Nat (fun i => ⟨[(0, .agg (oldL (tPattern.q p))), (1, .list none (pairs b)), (2, .list none (facts l)), (3, .bptr 0 0), (7, .list (some 0) (tks tFct (mchF p b (l.take i)) 1)), (13, .list none (facts l)), (14, .val (.int .i64 l.length)), (15, .val (.int .i64 i))], [.cells .var (oldL (tPattern.q p))], accFr (mchF p b (l.take i))⟩) (fun i => i ≤ l.length) (fun i => l.length - i) ⟨0, Nat.zero_le _, ?_⟩ (fun i hi => ?_)
  · repeat' first
      | exact trivial | refine Weak.mk ?_ ?_ ?_ ?_ (Or.inl (Nat.le_of_ble_eq_true rfl)) | refine Weak.mk ?_ ?_ ?_ ?_ (Or.inr ⟨(by repeat' first | exact trivial | exact Nat.le_of_ble_eq_true rfl | refine And.intro ?_ ?_), (by repeat' first | exact trivial | exact Nat.le_of_ble_eq_true rfl | refine And.intro ?_ ?_)⟩) | refine Weak.mk ?_ ?_ ?_ ?_ ?_ | refine And.intro ?_ ?_ | with_reducible rfl | exact Nat.le_of_ble_eq_true rfl | refine fr1 ?_ | refine fr2 ?_ ?_ | refine AV.int_congr ?_ | refine AV.bool_congr ?_ | refine AV.str_congr ?_ | refine AV.list_congr ?_ | refine AV.bsl_congr ?_ ?_ | (apply rfl)
    simp
  have hlen := mch_len p b l i
  have hsz : i < l.length → tFct.size (l.getD i default) ≤ 1048576 := fun hi => by have := fct_le hi; omega
  by_cases hi' : i < l.length
  rotate_left
  · repeat' first
      | contradiction | exact trivial
      | (conv => whnf
         first | refine Need.mk (fun h => h) ?_ | refine Need.mk rfl ?_ | refine Need.mk ⟨rfl, Nat.le_of_ble_eq_true rfl⟩ ?_ | refine Need.mk (Nat.le_of_ble_eq_true rfl) ?_ | refine Need.fin ?_ | refine Need.mk ?_ ?_ | refine Ix.strsF rfl ?_ | refine Ix.strs rfl ?_ ?_ | refine Cut.strs rfl ?_ ?_ | refine Ix.mapF (fun _ => rfl) ?_ | refine Ix.map (fun _ => rfl) ?_ ?_ | refine Cut.map (fun _ => rfl) ?_ ?_ | refine Fork.yes (by assumption) ?_ | refine Fork.no (by assumption) ?_ | refine Fork.decYes (by omega) ?_ | refine Fork.decNo (by omega) ?_ | refine Fork.dec (fun _ => ?_) (fun _ => ?_) | refine Fork.bne (fun _ => ?_) (fun _ => ?_) | refine Fork.beq (fun _ => ?_) (fun _ => ?_) | refine Fork.seq (fun _ => ?_) (fun _ => ?_) | refine Fork.sne (fun _ => ?_) (fun _ => ?_) | refine Fork.neg (fun _ => ?_) (fun _ => ?_) | refine Fork.mk (fun _ => ?_) (fun _ => ?_) | refine HAlt.mk ?_ ?_ | apply HJoin.mk3 | exact HEnd.mk rfl rfl rfl | refine HEnd.mk ?_ ?_ ?_ | refine Round.mk ?_ | refine NilQ.mk (fun b hb => ?_) | refine forceK_of ?_ | refine forceBx_of ?_ | refine unG_old ?_ | refine unG_gv ?_ | refine Lit.read rfl ?_ | refine FinVal.keep ?_ | refine FinAgg.keep ?_ | refine Final.mk rfl rfl | refine Final.mk ?_ rfl | refine Final.mk ?_ ?_ | refine FinalT.mk ?_ ?_ | refine FinalC.allA ?_)
      | refine AV.bool_congr ?_ | refine AV.int_congr ?_ | refine AV.str_congr ?_ | refine AV.list_congr ?_ | with_reducible rfl | refine fr1 ?_ | refine fr2 ?_ ?_
    all_goals try simp only [length_rows, length_strs, length_oldLL, List.length_map, Int.toNat_natCast] at *
    all_goals first
      | omega
      | (rw [List.take_of_length_le (by omega)]; done)
      | (rename_i h9; omega)
  have hm := (matM_eq p (l.getD i default) b).symm ▸ pMatchFact.own p (l.getD i default) b h1 (hsz hi') h2
  have hok := ok_mat ((matM p (l.getD i default) b).getD []) (matM p (l.getD i default) b).isSome
  repeat' first
    | contradiction | exact trivial
    | (conv => whnf
       first | refine Need.mk (fun h => h) ?_ | refine Need.mk rfl ?_ | refine Need.mk ⟨rfl, Nat.le_of_ble_eq_true rfl⟩ ?_ | refine Need.mk (Nat.le_of_ble_eq_true rfl) ?_ | refine Need.fin ?_ | refine Need.mk ?_ ?_ | refine Ix.strsF rfl ?_ | refine Ix.strs rfl ?_ ?_ | refine Cut.strs rfl ?_ ?_ | refine Ix.mapF (fun _ => rfl) ?_ | refine Ix.map (fun _ => rfl) ?_ ?_ | refine Cut.map (fun _ => rfl) ?_ ?_ | refine Fork.yes (by assumption) ?_ | refine Fork.no (by assumption) ?_ | refine Fork.decYes (by omega) ?_ | refine Fork.decNo (by omega) ?_ | refine Fork.dec (fun _ => ?_) (fun _ => ?_) | refine Fork.bne (fun _ => ?_) (fun _ => ?_) | refine Fork.beq (fun _ => ?_) (fun _ => ?_) | refine Fork.seq (fun _ => ?_) (fun _ => ?_) | refine Fork.sne (fun _ => ?_) (fun _ => ?_) | refine Fork.neg (fun _ => ?_) (fun _ => ?_) | refine Fork.mk (fun _ => ?_) (fun _ => ?_) | refine HAlt.mk ?_ ?_ | apply HJoin.mk3 | exact HEnd.mk rfl rfl rfl | refine HEnd.mk ?_ ?_ ?_ | refine Round.mk ?_ | refine NilQ.mk (fun b hb => ?_) | refine forceK_of ?_ | refine forceBx_of ?_ | refine unG_old ?_ | refine unG_gv ?_ | refine Lit.read rfl ?_ | refine FinVal.keep ?_ | refine FinAgg.keep ?_ | refine Final.mk rfl rfl | refine Final.mk ?_ rfl | refine Final.mk ?_ ?_ | refine FinalT.mk ?_ ?_ | refine FinalC.allA ?_ | refine ACall.oldA _ _ (hm) ?_ | refine ACall.mkFct _ _ (Ret.weak (pcopyFact.ret _ ?_)) (by repeat' first | exact SeesL.nil | refine SeesL.cons ?_ ?_ | exact SeesB.of0 (Sees0.val _) | exact SeesB.of0 (Sees0.str _) | exact SeesB.of0 (Sees0.olds _ _) | exact SeesB.of0 (Sees0.old _) | exact SeesB.of0 (Sees0.oldagg _) | exact SeesB.of0 Sees0.nil | exact Sees0.val _ | exact Sees0.str _ | exact Sees0.olds _ _ | exact Sees0.old _ | exact Sees0.oldagg _ | exact Sees0.nil | exact SeesB.of0 (Sees0.any _) | assumption | exact sees_gv _ _ _ (by assumption) (by first | assumption | exact BoxIn.last _ _ | exact BoxIn.more (BoxIn.last _ _) _) | refine SeesB.agg ?_ | refine Sees0.agg ?_ | exact SeesB.of0 (Sees0.clo SeesL.nil SeesL.nil) | exact Sees0.clo SeesL.nil SeesL.nil | exact SeesB.of0 (Sees0.list rfl) | exact Sees0.list rfl) ?_)
    | refine AV.bool_congr ?_ | refine AV.int_congr ?_ | refine AV.str_congr ?_ | refine AV.list_congr ?_ | with_reducible rfl | refine fr1 ?_ | refine fr2 ?_ ?_
  all_goals try simp only [length_rows, length_strs, length_oldLL, List.length_map, Int.toNat_natCast] at *
  · exact hsz hi'
  · rw [length_tks]
  · intro c hc; rw [List.mem_singleton.1 hc]; exact tFct.htk _ _
  · rw [length_tks]; simp only [List.length_singleton]; omega
  · have h1 : (matM p (l.getD i default) b).isSome = true := by assumption
    refine ⟨i + 1, by omega, ?_, by omega⟩
    repeat' first
      | exact trivial | refine Weak.mk ?_ ?_ ?_ ?_ (Or.inl (Nat.le_of_ble_eq_true rfl)) | refine Weak.mk ?_ ?_ ?_ ?_ (Or.inr ⟨(by repeat' first | exact trivial | exact Nat.le_of_ble_eq_true rfl | refine And.intro ?_ ?_), (by repeat' first | exact trivial | exact Nat.le_of_ble_eq_true rfl | refine And.intro ?_ ?_)⟩) | refine Weak.mk ?_ ?_ ?_ ?_ ?_ | refine And.intro ?_ ?_ | with_reducible rfl | exact Nat.le_of_ble_eq_true rfl | refine fr1 ?_ | refine fr2 ?_ ?_ | refine AV.int_congr ?_ | refine AV.bool_congr ?_ | refine AV.str_congr ?_ | refine AV.list_congr ?_ | refine AV.bsl_congr ?_ ?_ | (apply rfl)
    · rw [acc_snoc, mch_yes hi' h1]
    · rw [wrap64 (by omega) (by omega)]; rfl
    · rw [length_tks, mch_yes hi' h1]; exact accFr_snoc _ _
  · have h1 : (matM p (l.getD i default) b).isSome = false := by assumption
    refine ⟨i + 1, by omega, ?_, by omega⟩
    repeat' first
      | exact trivial | refine Weak.mk ?_ ?_ ?_ ?_ (Or.inl (Nat.le_of_ble_eq_true rfl)) | refine Weak.mk ?_ ?_ ?_ ?_ (Or.inr ⟨(by repeat' first | exact trivial | exact Nat.le_of_ble_eq_true rfl | refine And.intro ?_ ?_), (by repeat' first | exact trivial | exact Nat.le_of_ble_eq_true rfl | refine And.intro ?_ ?_)⟩) | refine Weak.mk ?_ ?_ ?_ ?_ ?_ | refine And.intro ?_ ?_ | with_reducible rfl | exact Nat.le_of_ble_eq_true rfl | refine fr1 ?_ | refine fr2 ?_ ?_ | refine AV.int_congr ?_ | refine AV.bool_congr ?_ | refine AV.str_congr ?_ | refine AV.list_congr ?_ | refine AV.bsl_congr ?_ ?_ | (apply rfl)
    · rw [mch_no hi' h1]
    · rw [wrap64 (by omega) (by omega)]; rfl
    · rw [mch_no hi' h1]
  all_goals (exfalso; omega)
theorem sMatchingFacts.own (p : VPattern) (b : List VPair) (l : List Fct) (h1 : tPattern.size p ≤ 1048576) (h2 : tPairs.size b ≤ 1048576) (h : tFcts.size l ≤ 1048576) :
    sMatchingFacts.Own [.agg (oldL (tPattern.q p)), .list none (pairs b), .list none (facts l)] (fctsT (mchF p b l)) := acc_own (sMatchingFacts.ret p b l h1 h2 h)
theorem pMatchingFacts.own (p : VPattern) (b : List VPair) (l : List Fct) (h1 : tPattern.size p ≤ 1048576) (h2 : tPairs.size b ≤ 1048576) (h : tFcts.size l ≤ 1048576) :
    pMatchingFacts.OwnN [.agg (oldL (tPattern.q p)), .list none (pairs b), .list none (facts l)] (fctsT (mchF p b l)) := acc_own (pMatchingFacts.ret p b l h1 h2 h)
end Go.Proofs.YtfffboofmccfhaaGreat
namespace Go.Proofs.YtfffboofmccfhaaGreat
open Abs
def holdsCF (x : VCond) (b : List VPair) (l : List Fct) : Bool := isCondF x && bindF b && (if x.1 = 1 then decide (0 < ((mchF x.2.1 b l).length : Int)) else if x.1 = 2 then ((mchF x.2.1 b l).length : Int) == 0 else holdsTF x b)
theorem hcond_no {x : VCond} {b : List VPair} {l : List Fct} (h : (!isCondF x || !bindF b) = true) : false = holdsCF x b l := by
  unfold holdsCF; revert h; cases isCondF x <;> cases bindF b <;> simp
theorem hcond_at {x : VCond} {b : List VPair} {l : List Fct} (h : (!isCondF x || !bindF b) = false) : (if x.1 = 1 then decide (0 < ((mchF x.2.1 b l).length : Int)) else if x.1 = 2 then ((mchF x.2.1 b l).length : Int) == 0 else holdsTF x b) = holdsCF x b l := by
  unfold holdsCF; revert h; cases isCondF x <;> cases bindF b <;> simp
theorem sHoldsCond.ret (x : VCond) (b : List VPair) (l : List Fct) (h1 : tCond.size x ≤ 1048576) (h2 : tPairs.size b ≤ 1048576) (h : tFcts.size l ≤ 1048576) :
    sHoldsCond.Ret [.agg (oldL (tCond.q x)), .list none (pairs b), .list none (facts l)] (.val (.bool (holdsCF x b l))) [] := by
  refine sHoldsCond.ofS rfl rfl ?_
  have hp := tCond_pat x
  have hm := sMatchingFacts.own x.2.1 b l (by omega) h2 h
  have hok : okT (fctsT (mchF x.2.1 b l)) = true := ok_list tFct _ _
  repeat' first
    | contradiction | exact trivial
    | (conv => whnf
       first | refine Need.mk (fun h => h) ?_ | refine Need.mk rfl ?_ | refine Need.mk ⟨rfl, Nat.le_of_ble_eq_true rfl⟩ ?_ | refine Need.mk (Nat.le_of_ble_eq_true rfl) ?_ | refine Need.fin ?_ | refine Need.mk ?_ ?_ | refine Ix.strsF rfl ?_ | refine Ix.strs rfl ?_ ?_ | refine Cut.strs rfl ?_ ?_ | refine Ix.mapF (fun _ => rfl) ?_ | refine Ix.map (fun _ => rfl) ?_ ?_ | refine Cut.map (fun _ => rfl) ?_ ?_ | refine Fork.yes (by assumption) ?_ | refine Fork.no (by assumption) ?_ | refine Fork.decYes (by omega) ?_ | refine Fork.decNo (by omega) ?_ | refine Fork.dec (fun _ => ?_) (fun _ => ?_) | refine Fork.bne (fun _ => ?_) (fun _ => ?_) | refine Fork.beq (fun _ => ?_) (fun _ => ?_) | refine Fork.seq (fun _ => ?_) (fun _ => ?_) | refine Fork.sne (fun _ => ?_) (fun _ => ?_) | refine Fork.neg (fun _ => ?_) (fun _ => ?_) | refine Fork.mk (fun _ => ?_) (fun _ => ?_) | refine HAlt.mk ?_ ?_ | apply HJoin.mk3 | exact HEnd.mk rfl rfl rfl | refine HEnd.mk ?_ ?_ ?_ | refine Round.mk ?_ | refine NilQ.mk (fun b hb => ?_) | refine forceK_of ?_ | refine forceBx_of ?_ | refine unG_old ?_ | refine unG_gv ?_ | refine Lit.read rfl ?_ | refine FinVal.keep ?_ | refine FinAgg.keep ?_ | refine Final.mk rfl rfl | refine Final.mk ?_ rfl | refine Final.mk ?_ ?_ | refine FinalT.mk ?_ ?_ | refine FinalC.allA ?_ | refine ACall.scalA _ _ (sIsCond.ret _ ?_) rfl ?_ | refine AQCall.mkA _ _ (fun hg => sIsCond.ret _ ?_) rfl ?_ | refine ACall.scalA _ _ (sIsBinding.ret _ ?_) rfl ?_ | refine AQCall.mkA _ _ (fun hg => sIsBinding.ret _ ?_) rfl ?_ | refine ACall.oldA _ _ (hm) ?_ | refine ACall.scalA _ _ (sHoldsTest.ret _ _ ?_ ?_) rfl ?_ | refine AQCall.mkA _ _ (fun hg => sHoldsTest.ret _ _ ?_ ?_) rfl ?_)
    | refine AV.bool_congr ?_ | refine AV.int_congr ?_ | refine AV.str_congr ?_ | refine AV.list_congr ?_ | with_reducible rfl | refine fr1 ?_ | refine fr2 ?_ ?_
  all_goals first
    | assumption
    | exact hcond_no (by assumption)
    | (rw [length_oldLL, List.length_map, ← hcond_at (by assumption), if_pos (by assumption)])
    | (rw [length_oldLL, List.length_map, ← hcond_at (by assumption), if_neg (by assumption), if_pos (by assumption)])
    | (rw [← hcond_at (by assumption), if_neg (by assumption), if_neg (by assumption)])
theorem pHoldsCond.ret (x : VCond) (b : List VPair) (l : List Fct) (h1 : tCond.size x ≤ 1048576) (h2 : tPairs.size b ≤ 1048576) (h : tFcts.size l ≤ 1048576) :
    pHoldsCond.RetN [.agg (oldL (tCond.q x)), .list none (pairs b), .list none (facts l)] (.val (.bool (holdsCF x b l))) [] := by
  refine pHoldsCond.ofS rfl rfl ?_
  have hp := tCond_pat x
  have hm := pMatchingFacts.own x.2.1 b l (by omega) h2 h
  have hok : okT (fctsT (mchF x.2.1 b l)) = true := ok_list tFct _ _
  repeat' first
    | contradiction | exact trivial
    | (conv => whnf
       first | refine Need.mk (fun h => h) ?_ | refine Need.mk rfl ?_ | refine Need.mk ⟨rfl, Nat.le_of_ble_eq_true rfl⟩ ?_ | refine Need.mk (Nat.le_of_ble_eq_true rfl) ?_ | refine Need.fin ?_ | refine Need.mk ?_ ?_ | refine Ix.strsF rfl ?_ | refine Ix.strs rfl ?_ ?_ | refine Cut.strs rfl ?_ ?_ | refine Ix.mapF (fun _ => rfl) ?_ | refine Ix.map (fun _ => rfl) ?_ ?_ | refine Cut.map (fun _ => rfl) ?_ ?_ | refine Fork.yes (by assumption) ?_ | refine Fork.no (by assumption) ?_ | refine Fork.decYes (by omega) ?_ | refine Fork.decNo (by omega) ?_ | refine Fork.dec (fun _ => ?_) (fun _ => ?_) | refine Fork.bne (fun _ => ?_) (fun _ => ?_) | refine Fork.beq (fun _ => ?_) (fun _ => ?_) | refine Fork.seq (fun _ => ?_) (fun _ => ?_) | refine Fork.sne (fun _ => ?_) (fun _ => ?_) | refine Fork.neg (fun _ => ?_) (fun _ => ?_) | refine Fork.mk (fun _ => ?_) (fun _ => ?_) | refine HAlt.mk ?_ ?_ | apply HJoin.mk3 | exact HEnd.mk rfl rfl rfl | refine HEnd.mk ?_ ?_ ?_ | refine Round.mk ?_ | refine NilQ.mk (fun b hb => ?_) | refine forceK_of ?_ | refine forceBx_of ?_ | refine unG_old ?_ | refine unG_gv ?_ | refine Lit.read rfl ?_ | refine FinVal.keep ?_ | refine FinAgg.keep ?_ | refine Final.mk rfl rfl | refine Final.mk ?_ rfl | refine Final.mk ?_ ?_ | refine FinalT.mk ?_ ?_ | refine FinalC.allA ?_ | refine ACall.scalA _ _ (Ret.weak (pIsCond.ret _ ?_)) rfl ?_ | refine AQCall.mkA _ _ (fun hg => Ret.weak (pIsCond.ret _ ?_)) rfl ?_ | refine ACall.scalA _ _ (Ret.weak (pIsBinding.ret _ ?_)) rfl ?_ | refine AQCall.mkA _ _ (fun hg => Ret.weak (pIsBinding.ret _ ?_)) rfl ?_ | refine ACall.oldA _ _ (hm) ?_ | refine ACall.scalA _ _ (Ret.weak (pHoldsTest.ret _ _ ?_ ?_)) rfl ?_ | refine AQCall.mkA _ _ (fun hg => Ret.weak (pHoldsTest.ret _ _ ?_ ?_)) rfl ?_)
    | refine AV.bool_congr ?_ | refine AV.int_congr ?_ | refine AV.str_congr ?_ | refine AV.list_congr ?_ | with_reducible rfl | refine fr1 ?_ | refine fr2 ?_ ?_
  all_goals first
    | assumption
    | exact hcond_no (by assumption)
    | (rw [length_oldLL, List.length_map, ← hcond_at (by assumption), if_pos (by assumption)])
    | (rw [length_oldLL, List.length_map, ← hcond_at (by assumption), if_neg (by assumption), if_pos (by assumption)])
    | (rw [← hcond_at (by assumption), if_neg (by assumption), if_neg (by assumption)])
end Go.Proofs.YtfffboofmccfhaaGreat
namespace Go.Proofs.YtfffboofmccfhaaGreat
open Abs
theorem lawExactHoldsCond.ret (a0 : VCond) (a1 : List VPair) (a2 : List Fct) (hb0 : tCond.bd a0) (hb1 : tPairs.bd a1) (hb2 : tFcts.bd a2) :
    lawExactHoldsCond.RetN [.agg (oldL (tCond.q a0)), .list none (rows tPair a1), .list none (rows tFct a2)] (.val (.bool true)) [] :=
  lawExactHoldsCond.of_ret a0 a1 a2 hb0 hb1 hb2 fun h => ⟨_, sHoldsCond.ret a0 a1 a2 (by omega) (by omega) (by omega), pHoldsCond.ret a0 a1 a2 (by omega) (by omega) (by omega)⟩
end Go.Proofs.YtfffboofmccfhaaGreat
namespace Go.Proofs.YtfffboofmccfhaaGreat
def headSigns : List Nat := [104, 97, 114, 110, 101, 115, 115, 32, 56, 48, 54, 102, 97, 57, 100, 99, 50, 54, 54, 56, 97, 49, 53, 54, 99, 97, 55, 48, 54, 48, 102, 51, 52, 51, 100, 53, 101, 54, 55, 98, 48, 102, 49, 54, 54, 97, 102, 56, 53, 48, 99, 56, 97, 55, 99, 57, 49, 53, 54, 53, 51, 101, 57, 55, 54, 97, 56, 102, 56, 56, 54, 99, 32, 99, 117, 116, 32, 97, 116, 32, 108, 111, 111, 112, 46, 101, 120, 97, 109, 112, 108, 101, 47, 103, 48, 51, 48, 49, 53, 47, 108, 97, 119, 115, 46, 70, 110, 69, 120, 97, 99, 116, 72, 111, 108, 100, 115, 67, 111, 110, 100]
theorem Abs.head : Tryz.prog.initOrder = String.ofList (headSigns.map Char.ofNat) := by kernel_rfl
theorem Abs.signs : Tryz.prog.initOrder.toList = headSigns.map Char.ofNat := by rw [Abs.head, String.toList_ofList]
def headWords : List (List Nat) := [[99, 117, 116], [97, 116], [108, 111, 111, 112, 46, 101, 120, 97, 109, 112, 108, 101, 47, 103, 48, 51, 48, 49, 53, 47, 108, 97, 119, 115, 46, 70, 110, 69, 120, 97, 99, 116, 72, 111, 108, 100, 115, 67, 111, 110, 100]]
theorem Abs.words : behindMainWord (wordsSigns (headSigns.map Char.ofNat)) = headWords.map fun w => w.map Char.ofNat := by kernel_rfl
theorem Abs.heads : behindMainWord (wordsSigns Tryz.prog.initOrder.toList) = headWords.map fun w => w.map Char.ofNat := by rw [Abs.signs, Abs.words]
theorem enters_gen (P : Program) (h : behindMainWord (wordsSigns P.initOrder.toList) = headWords.map fun w => w.map Char.ofNat) (h1 : P.laysLater = false) (h2 : P.bearsReflect = false) (h3 : P.doorFits [] = true) : P.mayEnter = true := by
  have h4 : stripLifts liftWords (headWords.map fun w => w.map Char.ofNat) = ([], headWords.map fun w => w.map Char.ofNat) := by kernel_rfl
  have h5 : (headWords.map fun w => w.map Char.ofNat) = (headWords.headD []).map Char.ofNat :: (headWords.tail.map fun w => w.map Char.ofNat) := rfl
  unfold Program.mayEnter
  rw [h, h1, h2, h5]
  simp only []
  rw [← h5, h4]
  simp only []
  rw [h3]
  rfl
theorem final_gen (P : Program) (h : behindMainWord (wordsSigns P.initOrder.toList) = headWords.map fun w => w.map Char.ofNat) : P.liftsFinal = false := by
  unfold Program.liftsFinal Program.headLifts
  rw [h]
  kernel_rfl
theorem made_gen (P : Program) (h : behindMainWord (wordsSigns P.initOrder.toList) = headWords.map fun w => w.map Char.ofNat) : P.make = some .cut := by
  unfold Program.make
  rw [h]
  rfl
theorem Abs.enters : Tryz.prog.mayEnter = true := enters_gen _ Abs.heads (by kernel_rfl) (by kernel_rfl) (by kernel_rfl)
theorem Abs.final : Tryz.prog.liftsFinal = false := final_gen _ Abs.heads
theorem Abs.made : Tryz.prog.make = some .cut := made_gen _ Abs.heads
theorem Abs.rowed : mapsRowed Tryz.prog = true := by kernel_rfl
theorem Abs.laidOut : laidOutB Tryz.prog = true := by kernel_rfl
/-- the closed facts of a row, without what is known already -/
def joinedLess (P : Program) (f : FuncId) (fn : Func) (s : ChangeSpec) (c : OpenClaim) (h1 : P.mayEnter = true) (h2 : P.liftsFinal = false) (h3 : P.make = some .cut) (h4 : mapsRowed P = true) (h5 : laidOutB P = true) : {b : Bool // joinedFacts P f fn s c = b} := by
  refine ⟨?b, ?h⟩
  case h =>
    unfold joinedFacts
    rw [h1, h2, h3, h4, h5]
theorem Abs.closed {f : FuncId} {fn : Func} {s : ChangeSpec} {c : OpenClaim} (h : (joinedLess Tryz.prog f fn s c Abs.enters Abs.final Abs.made Abs.rowed Abs.laidOut).1 = true) : joinedFacts Tryz.prog f fn s c = true :=
  (joinedLess Tryz.prog f fn s c Abs.enters Abs.final Abs.made Abs.rowed Abs.laidOut).2.trans h
end Go.Proofs.YtfffboofmccfhaaGreat
namespace Go.Proofs.YtfffboofmccfhaaGreat
namespace Abs
open Go.ChangeShapes Go.WideShapes Go.RowKit
def clF (P : Program) (g : TypeId → Option (List Cl)) : Nat → List Field → Option (List Cl)
  | _, [] => some []
  | off, f :: fs => match g f.type with
    | some cs => if f.offset = off ∧ cs.length = P.cellsOf f.type then
        (match clF P g (off + cs.length) fs with | some r => some (cs ++ r) | none => none) else none
    | none => none
def clOf (P : Program) : Nat → TypeId → Option (List Cl)
  | 0, _ => none
  | n + 1, t => match P.underlying t with
    | some .string => some [.str]
    | some .bool => some [.bool]
    | some (.int k) => some [.int k]
    | some (.slice e) => match clOf P n e with
      | some cs => if cs.length = P.cellsOf e ∧ 0 < P.cellsOf e then some [.sl e (P.cellsOf e) cs] else none
      | none => none
    | some (.struct fs) => match clF P (clOf P n) 0 fs.toList with
      | some cs => if cs.length = P.cellsOf t then some cs else none
      | none => none
    | _ => none
theorem Both.app {R : AV → Value → Prop} {xs ys : List AV} {us vs : List Value} (h : Both R xs us) (h' : Both R ys vs) : Both R (xs ++ ys) (us ++ vs) := by
  refine ⟨by simp [h.1, h'.1], fun i x v hx hv => ?_⟩
  rw [List.getElem?_append] at hx hv
  rw [h.1] at hx
  split at hx
  · rename_i hi; rw [if_pos hi] at hv; exact h.2 i x v hx hv
  · rename_i hi; rw [if_neg hi] at hv; exact h'.2 _ x v hx hv
/-- the cells of all blocks that are there -/
def allF (w : World) (b : Nat) : Nat := match w.heap[b]? with | some (.cells c _ _) => c.size | _ => 0
theorem allF_out (w : World) (b : Nat) (h : w.heap.size ≤ b) : allF w b = 0 := by
  unfold allF; rw [Array.getElem?_eq_none h]
section
variable {H : Type} {enc : TypeId × Value → H} {P : Program} {w : World} {base : Nat} {spare : Nat → Bool} {held : Bool}
def Opens (B : Nat) (w : World) (cls : List Cl) (cs : List Value) : Prop :=
  ∃ trs, FitsL cls trs ∧ Both (Rep B w (allF w) [] [] []) (oldL trs) cs ∧ ∀ v ∈ cs, v.oneCell' = true
theorem Opens.one {B : Nat} {cl : Cl} {v : Value} (x : Tr) (h : FitsL [cl] [x]) (hr : Rep B w (allF w) [] [] [] (old x) v) (h1 : v.oneCell' = true) : Opens B w [cl] [v] :=
  ⟨[x], h, Both.cons.2 ⟨hr, rfl, by simp [oldL]⟩, by simp [h1]⟩
theorem open_fields {fuel : Nat} {cs : List Value} (B : Nat) (g : TypeId → Option (List Cl))
    (ih : ∀ t cs x cls, g t = some cls → DataW.trod enc P w base spare held fuel t cs = some x → Opens B w cls cs) :
    ∀ (fs : List Field) (off : Nat) (cls : List Cl), clF P g off fs = some cls → (∀ f ∈ fs, ∃ x, DataW.trod enc P w base spare held fuel f.type ((cs.drop f.offset).take (P.cellsOf f.type)) = some x) →
      Opens B w cls ((cs.drop off).take cls.length)
  | [], off, cls, h, _ => by
    simp only [clF, Option.some.injEq] at h
    subst h
    exact ⟨[], .nil, by simp [Both, oldL], by simp⟩
  | f :: fs, off, cls, h, hx => by
    unfold clF at h
    cases hg : g f.type with
    | none => rw [hg] at h; cases h
    | some c =>
      rw [hg] at h
      simp only at h
      split at h
      · rename_i hc
        obtain ⟨rfl, hc⟩ := hc
        cases hr : clF P g (f.offset + c.length) fs with
        | none => rw [hr] at h; cases h
        | some r =>
          rw [hr] at h
          simp only [Option.some.injEq] at h
          subst h
          obtain ⟨x, hx1⟩ := hx f (by simp)
          obtain ⟨t1, f1, b1, o1⟩ := ih _ _ _ _ hg hx1
          obtain ⟨t2, f2, b2, o2⟩ := open_fields B g ih fs _ r hr (fun f' hf' => hx f' (by simp [hf']))
          have hsplit : (cs.drop f.offset).take (c ++ r).length = (cs.drop f.offset).take c.length ++ (cs.drop (f.offset + c.length)).take r.length := by
            rw [List.length_append, List.take_add, List.drop_drop]
          rw [hsplit, hc]
          rw [hc] at b2 o2
          refine ⟨t1 ++ t2, f1.append f2, ?_, fun v hv => ?_⟩
          · rw [oldL_eq, List.map_append, ← oldL_eq, ← oldL_eq]; exact b1.app b2
          · rcases List.mem_append.1 hv with h | h
            · exact o1 v h
            · exact o2 v h
      · cases h
theorem open_cells (B : Nat) : ∀ (n fuel : Nat) (t : TypeId) (cs : List Value) (x : DataW H × List MemPlace) (cls : List Cl), clOf P n t = some cls → DataW.trod enc P w base spare held fuel t cs = some x → Opens B w cls cs
  | 0, _, _, _, _, _, h, _ => by cases h
  | n + 1, fuel, t, cs, x, cls, h, hx => by
    unfold clOf at h
    cases ht : P.underlying t with
    | none => rw [ht] at h; cases h
    | some u =>
      rw [ht] at h
      cases u with
      | string =>
        simp only [Option.some.injEq] at h; subst h
        obtain ⟨s, rfl, _, hs⟩ := DataW.trod_string ht hx
        exact Opens.one (.s s.data.toList) (.str _ hs .nil) (rep_string s) rfl
      | bool =>
        simp only [Option.some.injEq] at h; subst h
        cases fuel with
        | zero => simp [DataW.trod] at hx
        | succ m =>
          unfold DataW.trod at hx
          rw [ht] at hx
          split at hx <;> simp_all
          exact Opens.one (.v (.bool _)) (.bool _ .nil) (.val _) rfl
      | int k =>
        simp only [Option.some.injEq] at h; subst h
        obtain ⟨m, rfl, _, hm⟩ := DataW.trod_int ht hx
        exact Opens.one (.v (.int k m)) (.int _ _ hm .nil) (.val _) rfl
      | slice e =>
        simp only at h
        cases hc : clOf P n e with
        | none => rw [hc] at h; cases h
        | some c =>
          rw [hc] at h
          simp only at h
          split at h
          · rename_i hsz
            obtain ⟨hsz, hpos⟩ := hsz
            simp only [Option.some.injEq] at h; subst h
            rcases Go.Deep.open_slice ht hx with ⟨rfl, _⟩ | ⟨a, len, cap, m, k, D, Pl, rfl, _, hl, hm, hmm, _, hel⟩
            · refine Opens.one (.l e (P.cellsOf e) []) (.sl _ _ _ [] (Nat.zero_le _) hsz (by simp) .nil) ?_ rfl
              exact .list none [] none 0 0 0 0 (fun _ _ => undef) (Nat.le_refl _) (fun h => absurd rfl h) (by simp) (fun h => absurd rfl h) (by simp) (by simp) (fun k hk => by cases hk)
            · have hlm : len ≤ m := by rw [hmm]; split <;> omega
              obtain ⟨T, hT⟩ := Go.Deep.choose_lt (α := List Value × List Tr) (n := len) (p := fun i q => w.cells? base (a.add (i * P.cellsOf e)) (P.cellsOf e) = some q.1 ∧ FitsL c q.2 ∧
                  Both (Rep B w (allF w) [] [] []) (oldL q.2) q.1 ∧ ∀ v ∈ q.1, v.oneCell' = true) (fun i hi => by
                obtain ⟨cs', h1, h2⟩ := hel i (by omega)
                obtain ⟨trs, h3, h4, h5⟩ := open_cells B n k e cs' _ c hc h2
                exact ⟨(cs', trs), h1, h3, h4, h5⟩)
              have hlen : ((List.range len).map fun i => (T i).2).length = len := by simp
              refine Opens.one (.l e (P.cellsOf e) ((List.range len).map fun i => (T i).2)) (.sl _ _ _ _ (by rw [hlen]; omega) hsz (fun x hx => ?_) .nil) ?_ rfl
              · obtain ⟨i, hi, rfl⟩ := List.mem_map.1 hx
                exact (hT i (List.mem_range.1 hi)).2.1
              · have hol : (oldLL ((List.range len).map fun i => (T i).2)).length = len := by rw [length_oldLL, hlen]
                have hget : ∀ i e', (oldLL ((List.range len).map fun i => (T i).2))[i]? = some e' → i < len ∧ e' = oldL (T i).2 := by
                  intro i e' he
                  have hi : i < len := by have := getElem?_lt he; omega
                  rw [oldLL_eq] at he
                  simp [hi] at he
                  exact ⟨hi, by rw [oldL_eq]; exact he.symm⟩
                have hlenT : ∀ i, i < len → (oldL (T i).2).length = P.cellsOf e := fun i hi => by rw [oldL_eq, List.length_map, (hT i hi).2.1.length, hsz]
                have hcell : ∀ i j, i < len → j < P.cellsOf e → w.cell? ⟨a.block, a.off + i * P.cellsOf e + j, none⟩ = (T i).1[j]? ∧ a.spot = none := by
                  intro i j hi hj
                  obtain ⟨_, hl', hc'⟩ := World.cells?_some (hT i hi).1
                  have h0 : a.spot = none := by
                    obtain ⟨_, hl0, hc0⟩ := World.cells?_some (hT 0 (by omega)).1
                    have := hc0 0 hpos
                    rw [List.getElem?_eq_getElem (by omega)] at this
                    simp only [Nat.zero_mul, Addr.add, if_true] at this
                    unfold World.cell? at this
                    cases hs : a.spot with
                    | none => rfl
                    | some _ => rw [hs] at this; split at this <;> simp at this
                  refine ⟨?_, h0⟩
                  rw [← hc' j hj, Go.Deep.add_add]
                  unfold Addr.add
                  split
                  · rename_i hz
                    rw [show a.off + i * P.cellsOf e + j = a.off by omega]
                    cases a; simp only at h0; subst h0; rfl
                  · rw [Nat.add_assoc]
                have hrep := Rep.list (B := B) (w := w) (F := allF w) (tok := []) (fr := []) (box := []) none (oldLL ((List.range len).map fun i => (T i).2)) (some a) cap (P.cellsOf e) a.block a.off
                  (fun i j => (T i).1.getD j undef) (by rw [hol]; exact hl)
                  (fun hne => by
                    have : 0 < len := by
                      rcases Nat.eq_zero_or_pos len with h0 | h0
                      · subst h0; exact absurd rfl hne
                      · exact h0
                    have := (hcell 0 0 this hpos).2
                    cases a; simp only at this; subst this; rfl)
                  (fun e' he' => by
                    obtain ⟨i, hi⟩ := List.getElem?_of_mem he'
                    obtain ⟨h1, h2⟩ := hget i e' hi
                    rw [h2]; exact hlenT i h1)
                  (fun hne => by
                    have h0 : 0 < len := by
                      rcases Nat.eq_zero_or_pos len with h0 | h0
                      · subst h0; exact absurd rfl hne
                      · exact h0
                    rw [hol]
                    have hc := (hcell (len - 1) (P.cellsOf e - 1) (by omega) (by omega)).1
                    have hl1 : (T (len - 1)).1.length = P.cellsOf e := (World.cells?_some (hT (len - 1) (by omega)).1).2.1
                    rw [List.getElem?_eq_getElem (by omega)] at hc
                    unfold World.cell? at hc
                    unfold allF
                    simp only at hc
                    split at hc
                    · simp only [Option.isSome_none, Bool.false_eq_true, if_false] at hc
                      have hlt := (Array.getElem?_eq_some_iff.1 hc).1
                      have hmul : (len - 1) * P.cellsOf e + P.cellsOf e = len * P.cellsOf e := by
                        obtain ⟨q, rfl⟩ : ∃ q, len = q + 1 := ⟨len - 1, by omega⟩
                        rw [Nat.add_sub_cancel, Nat.add_mul]; omega
                      rename_i he
                      rw [he]
                      simp only
                      omega
                    · cases hc)
                  (fun i e' j c' hi hj => by
                    obtain ⟨h1, rfl⟩ := hget i e' hi
                    have hj' := getElem?_lt hj
                    rw [hlenT i h1] at hj'
                    have hl1 : (T i).1.length = P.cellsOf e := (World.cells?_some (hT i h1).1).2.1
                    have hg : (T i).1[j]? = some ((T i).1.getD j undef) := by simp [List.getD, hl1, hj']
                    exact ⟨by rw [(hcell i j h1 hj').1, hg], (hT i h1).2.2.2 _ (List.mem_of_getElem? hg)⟩)
                  (fun i e' j c' hi hj => by
                    obtain ⟨h1, rfl⟩ := hget i e' hi
                    have hj' := getElem?_lt hj
                    rw [hlenT i h1] at hj'
                    have hl1 : (T i).1.length = P.cellsOf e := (World.cells?_some (hT i h1).1).2.1
                    have hg : (T i).1[j]? = some ((T i).1.getD j undef) := by simp [List.getD, hl1, hj']
                    exact (hT i h1).2.2.1.2 j c' _ hj hg)
                  (fun k hk => by cases hk)
                rw [hol] at hrep
                exact hrep
          · cases h
      | struct fs =>
        simp only at h
        cases hc : clF P (clOf P n) 0 fs.toList with
        | none => rw [hc] at h; cases h
        | some c =>
          rw [hc] at h
          simp only at h
          split at h
          · rename_i hsz
            simp only [Option.some.injEq] at h; subst h
            obtain ⟨xs, m, rfl, _, hl, hfl, hel⟩ := DataW.trod_struct ht hx
            have := open_fields (fuel := m) (cs := cs) B (clOf P n) (fun t cs x cls h1 h2 => open_cells B n m t cs x cls h1 h2) fs.toList 0 c hc (fun f hf => by
              obtain ⟨i, hi⟩ := List.getElem?_of_mem hf
              have hi' : fs[i]? = some f := by simpa using hi
              have := hel i f hi'
              have hlt : i < xs.length := by have := getElem?_lt hi; simp at this; omega
              exact ⟨_, by rw [this, List.getElem?_eq_getElem hlt]⟩)
            rw [List.drop_zero, hsz, ← hl, List.take_length] at this
            exact this
          · cases h
      | _ => simp only at h; cases h
/-- an argument that is no struct -/
theorem open_arg {t : TypeId} {v : Value} {d : DataW H} {ps : List MemPlace} {r : Reach} {b0 : Nat} (B n : Nat) {cl : Cl} (hc : clOf P n t = some [cl]) (hs : ∀ fs, P.underlying t ≠ some (.struct fs)) (hval : Value.okWide P w r b0 t v)
    (h : DataW.Trod enc P w base spare held t v d ps) : ∃ x, FitsL [cl] [x] ∧ Rep B w (allF w) [] [] [] (old x) v := by
  obtain ⟨fuel, h⟩ := h
  obtain ⟨trs, h1, h2, h3⟩ := open_cells B n fuel t _ _ _ hc h
  have hv : v.cells.toList = [v] := by
    cases v with
    | agg cs =>
      exfalso
      unfold Value.okWide at hval
      cases n with
      | zero => cases hc
      | succ n =>
        unfold clOf at hc
        cases hu : P.underlying t with
        | none => rw [hu] at hc; cases hc
        | some u =>
          rw [hu] at hc hval hs
          cases u <;> first | cases hc; done | exact absurd rfl (hs _) | (simp only [Cell.okWide, hu, Cell.ok] at hval)
    | _ => rfl
  rw [hv] at h2
  cases trs with
  | nil => exact absurd h1.length (by simp)
  | cons x xs =>
    cases xs with
    | cons _ _ => exact absurd h1.length (by simp)
    | nil => exact ⟨x, h1, (Both.cons.1 h2).1⟩
/-- an argument that is a struct -/
theorem open_argS {t : TypeId} {v : Value} {d : DataW H} {ps : List MemPlace} {r : Reach} {b0 : Nat} (B n : Nat) {cls : List Cl} (hc : clOf P n t = some cls) {fs : Array Field} (hs : P.underlying t = some (.struct fs)) (hval : Value.okWide P w r b0 t v)
    (h : DataW.Trod enc P w base spare held t v d ps) : ∃ xs, FitsL cls xs ∧ Rep B w (allF w) [] [] [] (old (.a xs)) v := by
  obtain ⟨fuel, h⟩ := h
  obtain ⟨trs, h1, h2, h3⟩ := open_cells B n fuel t _ _ _ hc h
  unfold Value.okWide at hval
  rw [hs] at hval
  obtain ⟨cs, rfl, _, _⟩ := hval
  refine ⟨trs, h1, ?_⟩
  have hg : ∀ i, i < cs.size → cs.toList[i]? = some (cs.getD i undef) := fun i hi => by simp [Array.getD, hi]
  have hl : (oldL trs).length = cs.size := by have := h2.1; simpa [Value.cells] using this
  exact .agg _ _ hl (fun i hi => h3 _ (List.mem_of_getElem? (hg i hi))) (fun i c hc => h2.2 i c _ hc (hg i (by have := getElem?_lt hc; omega)))
end
end Abs
end Go.Proofs.YtfffboofmccfhaaGreat
namespace Go.Proofs.YtfffboofmccfhaaGreat
namespace Abs
variable {mo : Bool}
open Go.ChangeShapes Go.WideShapes Go.ChangeAt Go.RowKit
section
variable {H : Type} {enc : TypeId × Value → H} {P : Program}
theorem trodAll_stays {base : Nat} (hl : laidOutB P = true) {W W' : World} {sp' : Nat → Bool} : ∀ {ts : List TypeId} {vs : List Value} {ds : List (DataW H)} {ps : List MemPlace},
    (∀ t ∈ ts, P.readableRec t = true ∧ t < P.types.size) → DataW.TrodAll enc P W base (fun _ => true) true ts vs ds ps → (∀ p ∈ ps, W.sameAt W' p) → (∀ p ∈ ps, sp' p.block = true) →
    DataW.TrodAll enc P W' base sp' true ts vs ds ps
  | [], [], [], _, _, h, _, _ => h
  | t :: ts, v :: vs, d :: ds, _, ht, h, hs, hp => by
    obtain ⟨p, q, h1, h2, rfl⟩ := h
    exact ⟨p, q, WideElems.Trod_stays hl (ht t (by simp)).1 (ht t (by simp)).2 h1 (fun x hx => hs x (by simp [hx])) (fun x hx => hp x (by simp [hx])),
      trodAll_stays hl (fun t h => ht t (by simp [h])) h2 (fun x hx => hs x (by simp [hx])) (fun x hx => hp x (by simp [hx])), rfl⟩
/-- a law that says yes, and leaves what was there alone -/
theorem law_post {f : Func} {s : ChangeSpec} {apart fresh handsOn again : Bool} {W W' : World} {args : Array Value} {ds gs : List (DataW H)} {before : List MemPlace} {tb : TypeId}
    (hl : laidOutB P = true) (hv : s.vars = []) (hp : ∀ t ∈ f.params.toList, P.readableRec t = true ∧ t < P.types.size) (hr : f.resultTypes = #[tb]) (htb : P.underlying tb = some .bool)
    (hW : DataW.Whole enc P f.params.toList s.vars apart W args.toList ds gs before) (hb : Bel mo W.heap.size W W')
    (hfn : s.fn H (ds ++ gs) = { results := [.lit (.bool true)], args := ds }) : s.post enc P f apart fresh handsOn again W args (.bool true) W' := by
  have hlt : ∀ p ∈ before, p.block < W.heap.size := fun p hp => hW.lt p hp
  have hW' := hW
  obtain ⟨p, q, hA, hV, hpq, hz, hn⟩ := hW
  rw [hv] at hV
  obtain ⟨hg, hq⟩ : gs = [] ∧ q = [] := trodVars_none hV
  subst hg; subst hq
  simp only [List.append_nil] at hpq hfn hz hn
  subst hpq
  have hargs : ∀ sp : Nat → Bool, (∀ x ∈ before, sp x.block = true) → DataW.TrodAll enc P W' 0 sp true f.params.toList args.toList ds before :=
    fun sp hsp => trodAll_stays hl hp hA (fun x hx => hb.same (hlt x hx)) hsp
  have hres : ∀ (b : Nat) (sp : Nat → Bool) (hd : Bool), DataW.TrodAll enc P W' b sp hd f.resultTypes.toList ((Value.bool true).resultList f.resultTypes.size) [.lit (.bool true)] [] := fun b sp hd => by
    rw [hr]
    exact trodAll_mk1 (shut_bool htb true)
  have hvars : ∀ sp : Nat → Bool, DataW.TrodVars enc P W' sp s.vars [] [] := fun sp => by rw [hv]; rfl
  have hfn' : s.fn H (ds ++ []) = { results := [.lit (.bool true)], args := ds } := by rw [List.append_nil]; exact hfn
  refine ⟨ds, [], before, [], before, [], hW', by rw [hfn']; exact hres _ _ _, by rw [hfn']; exact hargs _ (fun x hx => by simpa using hlt x hx), by rw [hfn']; exact hvars _, hb.frame _, fun _ => ?_⟩
  refine ⟨ok_one hr rfl (okWide_bool_mk htb true), _, _, ([] ++ before) ++ [], ⟨[] ++ before, [], trodAll_append (hargs _ (fun _ _ => rfl)) (hres _ _ _), hvars _, rfl, ?_, ?_⟩, ?_⟩
  · intro b off hp'
    have hm : MemPlace.cell b off ∈ before := by simpa using hp'
    rw [hb.frozen (hlt _ hm)]
    exact hz b off hm
  · intro ha
    simpa using hn ha
  · intro x hx _
    simpa using hx
end
/-- the call's own result -/
theorem law_ret {P : Program} {fid : Nat} {avs : List AV} {args : Array Value} {W : World} (h : Ret mo P fid avs (.val (.bool true)) []) (hB : Both (Rep W.heap.size W (allF W) [] [] []) avs args.toList) :
    Calls P fid args W fun e w' => e = .returned (.bool true) ∧ Bel mo W.heap.size W w' := by
  rw [Ret_eq] at h
  obtain ⟨_, hR⟩ := h
  refine (hR W (allF W) args (fun b hb => allF_out W b hb) hB).mono ?_
  rintro e W' ⟨v, F', tok, box, rfl, hb, _, _, _, _, _, hrep⟩
  cases hrep
  exact ⟨rfl, hb⟩
theorem both_nil {R : AV → Value → Prop} : Both R [] [] := ⟨rfl, by simp⟩
end Abs
theorem Abs.own : ownKnob Tryz.prog.godebug = none := by kernel_rfl
end Go.Proofs.YtfffboofmccfhaaGreat
