/-
  What stands below some laws' proofs, part 3: contracts of functions, by an evaluator.
-/
import Derived.Test.YtoindmahilbalaaGreatZD2
namespace Go.Proofs
open Go.RowKit Go.Maps Go.Sort Go.Shelf
def Tryz.keys208_ren : Go.Shelf.Ren := ⟨fun | 7 => 208 | 10 => 223 | n => n, fun | 23 => 180 | 26 => 9 | 3 => 9 | 28 => 203 | 0 => 0 | 27 => 202 | 33 => 112 | 4 => 4 | n => n, fun | n => n⟩
theorem Tryz.keys208 : Go.Proofs.SlLaysZ.n7 Tryz.prog Tryz.keys208_ren := {
  mixed := by kernel_rfl
  f7 := ⟨Tryz.f208.name, by decide, Tryz.func208.trans (congrArg some (by kernel_rfl))⟩
  f10 := ⟨Tryz.f223.name, by decide, Tryz.func223.trans (congrArg some (by kernel_rfl))⟩
  t0 := Tryz.underlying0
  a0 := Tryz.isAgg0
  z0 := Tryz.sizeOf0
  v0 := Tryz.zeroValue0
  t4 := Tryz.underlying4
  a4 := Tryz.isAgg4
  z4 := Tryz.sizeOf4
  v4 := Tryz.zeroValue4
  t23 := Tryz.underlying180
  a23 := Tryz.isAgg180
  z23 := Tryz.sizeOf180
  v23 := Tryz.zeroValue180
  t26 := Tryz.underlying9
  a26 := Tryz.isAgg9
  z26 := Tryz.sizeOf9
  v26 := Tryz.zeroValue9
  t27 := Tryz.underlying202
  a27 := Tryz.isAgg202
  z27 := Tryz.sizeOf202
  v27 := Tryz.zeroValue202
  t28 := Tryz.underlying203
  a28 := Tryz.isAgg203
  z28 := Tryz.sizeOf203
  v28 := Tryz.zeroValue203
  t33 := Tryz.underlying112
  a33 := Tryz.isAgg112
  z33 := Tryz.sizeOf112
  v33 := Tryz.zeroValue112 }
def Tryz.sorted207_ren : Go.Shelf.Ren := ⟨fun | 6 => 207 | 8 => 222 | 9 => 180 | 11 => 233 | 13 => 204 | 12 => 203 | 23 => 220 | 24 => 221 | 14 => 211 | 15 => 212 | 16 => 213 | 17 => 214 | 18 => 215 | 19 => 216 | 20 => 217 | 21 => 218 | 22 => 219 | 25 => 228 | 26 => 229 | 27 => 230 | 28 => 231 | 29 => 232 | 30 => 182 | 31 => 235 | n => n, fun | 26 => 9 | 28 => 203 | 24 => 77 | 0 => 0 | 3 => 3 | 37 => 199 | 48 => 216 | 50 => 218 | 4 => 4 | 40 => 210 | 39 => 209 | 45 => 168 | 5 => 5 | 9 => 9 | 51 => 219 | 55 => 223 | 57 => 226 | 58 => 227 | 33 => 112 | n => n, fun | n => n⟩
theorem Tryz.sorted207 : Go.Proofs.SlLaysZ.n6 Tryz.prog Tryz.sorted207_ren := {
  mixed := by kernel_rfl
  f6 := ⟨Tryz.f207.name, by decide, Tryz.func207.trans (congrArg some (by kernel_rfl))⟩
  f8 := ⟨Tryz.f222.name, by decide, Tryz.func222.trans (congrArg some (by kernel_rfl))⟩
  f11 := ⟨Tryz.f233.name, by decide, Tryz.func233.trans (congrArg some (by kernel_rfl))⟩
  t0 := Tryz.underlying0
  a0 := Tryz.isAgg0
  z0 := Tryz.sizeOf0
  v0 := Tryz.zeroValue0
  t24 := Tryz.underlying77
  a24 := Tryz.isAgg77
  z24 := Tryz.sizeOf77
  v24 := Tryz.zeroValue77
  t26 := Tryz.underlying9
  a26 := Tryz.isAgg9
  z26 := Tryz.sizeOf9
  v26 := Tryz.zeroValue9
  t28 := Tryz.underlying203
  a28 := Tryz.isAgg203
  z28 := Tryz.sizeOf203
  v28 := Tryz.zeroValue203
  i26 := by kernel_rfl }
def Tryz.sort180_ren : Go.Shelf.Ren := ⟨fun | 6 => 180 | 8 => 204 | 9 => 203 | 19 => 220 | 20 => 221 | 21 => 211 | 22 => 212 | 23 => 213 | 24 => 214 | 25 => 215 | 26 => 216 | 27 => 217 | 28 => 218 | 29 => 219 | 36 => 228 | 31 => 229 | 32 => 230 | 37 => 231 | 38 => 232 | 39 => 182 | 41 => 235 | n => n, fun | 27 => 77 | 29 => 9 | 3 => 3 | 32 => 199 | 26 => 77 | 0 => 0 | 44 => 216 | 46 => 218 | 4 => 4 | 36 => 210 | 35 => 209 | 41 => 168 | 5 => 5 | 9 => 9 | 53 => 219 | 57 => 223 | 63 => 226 | 64 => 227 | n => n, fun | n => n⟩
theorem Tryz.sort180 : Go.Proofs.SlLaysM.n6 Tryz.prog Tryz.sort180_ren := {
  mixed := by kernel_rfl
  f6 := ⟨Tryz.f180.name, by decide, Tryz.func180.trans (congrArg some (by kernel_rfl))⟩
  f8 := Tryz.func204.trans (congrArg some (by kernel_rfl))
  f9 := ⟨Tryz.f203.name, by decide, Tryz.func203.trans (congrArg some (by kernel_rfl))⟩
  f19 := Tryz.func220.trans (congrArg some (by kernel_rfl))
  f20 := Tryz.func221.trans (congrArg some (by kernel_rfl))
  f21 := ⟨Tryz.f211.name, by decide, Tryz.func211.trans (congrArg some (by kernel_rfl))⟩
  f22 := ⟨Tryz.f212.name, by decide, Tryz.func212.trans (congrArg some (by kernel_rfl))⟩
  f23 := ⟨Tryz.f213.name, by decide, Tryz.func213.trans (congrArg some (by kernel_rfl))⟩
  f24 := ⟨Tryz.f214.name, by decide, Tryz.func214.trans (congrArg some (by kernel_rfl))⟩
  f25 := ⟨Tryz.f215.name, by decide, Tryz.func215.trans (congrArg some (by kernel_rfl))⟩
  f26 := ⟨Tryz.f216.name, by decide, Tryz.func216.trans (congrArg some (by kernel_rfl))⟩
  f27 := ⟨Tryz.f217.name, by decide, Tryz.func217.trans (congrArg some (by kernel_rfl))⟩
  f28 := ⟨Tryz.f218.name, by decide, Tryz.func218.trans (congrArg some (by kernel_rfl))⟩
  f29 := ⟨Tryz.f219.name, by decide, Tryz.func219.trans (congrArg some (by kernel_rfl))⟩
  f31 := Tryz.func229.trans (congrArg some (by kernel_rfl))
  f32 := Tryz.func230.trans (congrArg some (by kernel_rfl))
  f36 := ⟨Tryz.f228.name, by decide, Tryz.func228.trans (congrArg some (by kernel_rfl))⟩
  f37 := ⟨Tryz.f231.name, by decide, Tryz.func231.trans (congrArg some (by kernel_rfl))⟩
  f38 := ⟨Tryz.f232.name, by decide, Tryz.func232.trans (congrArg some (by kernel_rfl))⟩
  f39 := ⟨Tryz.f182.name, by decide, Tryz.func182.trans (congrArg some (by kernel_rfl))⟩
  f41 := ⟨Tryz.f235.name, by decide, Tryz.func235.trans (congrArg some (by kernel_rfl))⟩
  t0 := Tryz.underlying0
  a0 := Tryz.isAgg0
  z0 := Tryz.sizeOf0
  v0 := Tryz.zeroValue0
  t3 := Tryz.underlying3
  a3 := Tryz.isAgg3
  z3 := Tryz.sizeOf3
  v3 := Tryz.zeroValue3
  t4 := Tryz.underlying4
  a4 := Tryz.isAgg4
  z4 := Tryz.sizeOf4
  v4 := Tryz.zeroValue4
  t5 := Tryz.underlying5
  a5 := Tryz.isAgg5
  z5 := Tryz.sizeOf5
  v5 := Tryz.zeroValue5
  t9 := Tryz.underlying9
  a9 := Tryz.isAgg9
  z9 := Tryz.sizeOf9
  v9 := Tryz.zeroValue9
  t26 := Tryz.underlying77
  a26 := Tryz.isAgg77
  z26 := Tryz.sizeOf77
  v26 := Tryz.zeroValue77
  t27 := Tryz.underlying77
  a27 := Tryz.isAgg77
  z27 := Tryz.sizeOf77
  v27 := Tryz.zeroValue77
  t29 := Tryz.underlying9
  a29 := Tryz.isAgg9
  z29 := Tryz.sizeOf9
  v29 := Tryz.zeroValue9
  t32 := Tryz.underlying199
  a32 := Tryz.isAgg199
  z32 := Tryz.sizeOf199
  v32 := Tryz.zeroValue199
  t35 := Tryz.underlying209
  a35 := Tryz.isAgg209
  z35 := Tryz.sizeOf209
  v35 := Tryz.zeroValue209
  t36 := Tryz.underlying210
  a36 := Tryz.isAgg210
  z36 := Tryz.sizeOf210
  v36 := Tryz.zeroValue210
  t41 := Tryz.underlying168
  a41 := Tryz.isAgg168
  z41 := Tryz.sizeOf168
  v41 := Tryz.zeroValue168
  t44 := Tryz.underlying216
  a44 := Tryz.isAgg216
  z44 := Tryz.sizeOf216
  v44 := Tryz.zeroValue216
  t46 := Tryz.underlying218
  a46 := Tryz.isAgg218
  z46 := Tryz.sizeOf218
  v46 := Tryz.zeroValue218
  t53 := Tryz.underlying219
  a53 := Tryz.isAgg219
  z53 := Tryz.sizeOf219
  v53 := Tryz.zeroValue219
  t57 := Tryz.underlying223
  a57 := Tryz.isAgg223
  z57 := Tryz.sizeOf223
  v57 := Tryz.zeroValue223
  t63 := Tryz.underlying226
  a63 := Tryz.isAgg226
  z63 := Tryz.sizeOf226
  v63 := Tryz.zeroValue226
  t64 := Tryz.underlying227
  a64 := Tryz.isAgg227
  z64 := Tryz.sizeOf227
  v64 := Tryz.zeroValue227 }
theorem Tryz.sorts207 (m : Nat) : AnyZ.SortsIn Tryz.prog Tryz.sorted207_ren Fence.wide m :=
  ⟨fun blk off cap ss W hH hblk hsz => callsIn_wide.2 (AnyM.slices_Sort_string Tryz.sort180 blk off cap ss W hH hblk hsz),
   fun p cap W => callsIn_wide.2 (AnyM.slices_Sort_string_none Tryz.sort180 p cap W)⟩
set_option maxHeartbeats 1000000 in
theorem Tryz.sortedKeysAt {H : Type} (c b nn : Nat) (D0 : DataW H) (R : Value → Option (DataW H × List MemPlace)) (w : World) (hcs : c < w.heap.size) (hc : w.cell? ⟨c, 0, none⟩ = some (.map (some b))) (hown : w.ownsMap Tryz.prog 9 R b nn D0) (hmax : Maps.size D0 ≤ maxLen) (hbytes : Maps.size D0 * 16 ≤ 140737488355328) :
    CallsIn Fence.wide 5 Tryz.prog 207 #[.func (.func 223) #[] #[.pointer (some ⟨c, 0, none⟩)]] w fun e w' => ∃ (v : Value) (ss : List (List UInt8)), e = .returned v ∧ ss.Perm (strKeys D0) ∧
      w'.ownsRow w.heap.size 9 1 v ss.length ((ss.mergeSort (fun x y => decide (x ≤ y))).map encStr) ∧ (v = .slice none 0 0 ↔ ss = []) ∧ Below w.heap.size w w' := by
  have hseq : SeqGives Fence.wide 2 Tryz.prog 223 #[.pointer (some ⟨c, 0, none⟩)] encStr (fun ss => ss.Perm (strKeys D0)) (Maps.size D0) w :=
    AnyZ.keys_gives (ρ := Tryz.keys208_ren) { Tryz.keys208 with } Fence.wide _ trivial rfl (by omega) c b nn D0 w hcs hc hown
  exact AnyZ.sorted_in Tryz.sorted207 Fence.wide 5 trivial trivial trivial trivial rfl (by omega) (Tryz.sorts207 _) (enters_of Tryz.func180 (by kernel_rfl) rfl) 223 #[.pointer (some ⟨c, 0, none⟩)] trivial (enters_of Tryz.func223 (by kernel_rfl) rfl) _ _ hmax hbytes _ hseq
end Go.Proofs
namespace Go.Proofs.YtoindmahilbalaaGreat
open Abs Go.RowKit
theorem strs_get2 {l : List Str} {i j : Nat} {e : List AV} {c : AV} (hi : (strs l)[i]? = some e) (hj : e[j]? = some c) : ∃ s, l[i]? = some s ∧ j = 0 ∧ c = .str s := by
  rw [strs_eq, List.getElem?_map] at hi
  obtain ⟨s, hs, rfl⟩ := Option.map_eq_some_iff.1 hi
  cases j with
  | zero => simp at hj; exact ⟨s, hs, rfl, hj.symm⟩
  | succ j => simp at hj
/-- a row of texts that a call owns, as a list of its own -/
theorem lent_strs {T : TypeId} {w w' : World} {F : Nat → Nat} {box0 : List BId} {b0 : List ABox} {Φ : AV → List ABox → Fr → Prop} {v : Value} {l : List Str} (hd : noDead b0 = true)
    (hout : ∀ b, w.heap.size ≤ b → F b = 0) (hbl : box0.length = b0.length) (hbi : ∀ (j b c : Nat), box0[j]? = some (.blk b c) → b < w.heap.size ∧ (live b0 j → F b = 0))
    (hbj : ∀ (i j b c c' : Nat), box0[i]? = some (.blk b c) → box0[j]? = some (.blk b c') → live b0 i → live b0 j → i = j) (hB : BoxesOk w.heap.size w F [] [] box0 b0)
    (hrow : w'.ownsRow w.heap.size T 1 v l.length (l.map encStr)) (hw : Below w.heap.size w w') (hΦ : Φ (.list (some 0) (strs l)) b0 [(T, 1, l.length)]) :
    ∃ (u : Value) (F' : Nat → Nat) (box1 : List BId) (tok : List (Option Nat)) (frs : Fr) (r : AV) (b1 : List ABox), Φ r b1 frs ∧ Ending.returned v = .returned u ∧ Keep false (mask b0 box0) w w' ∧ (∀ b, b < w.heap.size → F' b = F b) ∧ (∀ b, w'.heap.size ≤ b → F' b = 0) ∧
      (∀ (j : Nat) d, box0[j]? = some d → box1[j]? = some d) ∧ box1.length = b1.length ∧
      (∀ (j b c : Nat), box0.length ≤ j → box1[j]? = some (.blk b c) → (w.heap.size ≤ b ∨ ∃ i : Nat, live b0 i ∧ box0[i]? = some (.blk b c)) ∧ b < w'.heap.size) ∧
      (∀ (j b c : Nat), box1[j]? = some (.blk b c) → live b1 j → (box0.length ≤ j ∨ live b0 j) → F' b = 0) ∧
      (∀ (i j b c c' : Nat), box1[i]? = some (.blk b c) → box1[j]? = some (.blk b c') → live b1 i → live b1 j → (box0.length ≤ i ∨ live b0 i) → (box0.length ≤ j ∨ live b0 j) → i = j) ∧
      (∀ (j : Nat) d x, box1[j]? = some d → b1[j]? = some x → (box0.length ≤ j ∨ live b0 j) → BoxOk w.heap.size w' F' [] [] box1 d x) ∧
      tok.length = frs.length ∧ (∀ (k b : Nat), tok[k]? = some (some b) → w.heap.size ≤ b ∧ b < w'.heap.size) ∧ (∀ (k l b : Nat), tok[k]? = some (some b) → tok[l]? = some (some b) → k = l) ∧
      (∀ (k b j c : Nat), tok[k]? = some (some b) → box1[j]? = some (.blk b c) → ¬ live b1 j) ∧ Rep w.heap.size w' F' tok frs box1 r u := by
  have hlv := noDead_live hd
  have hk : Keep false (mask b0 box0) w w' := ⟨(fun h => nomatch h), hw.os, hw.tape, hw.output, hw.size, fun k hk _ => hw.block k hk⟩
  obtain ⟨a, cap, hv, hcap, hnew, hne⟩ : ∃ (a : Option Addr) (cap : Nat), v = .slice a l.length cap ∧ l.length ≤ cap ∧ (∀ g, a.map (·.block) = some g → w.heap.size ≤ g ∧ g < w'.heap.size) ∧ (l ≠ [] → ∃ g cur, a = some ⟨g, 0, none⟩ ∧ w'.heap[g]? = some (.cells cur T (0, 0)) ∧ cur.toList.take l.length = l.map encStr) := by
    rcases hrow.2 with ⟨hv, hn⟩ | ⟨g, cap, cur, hv, hbase, hh, h1, h2, h3, h4⟩
    · have hl : l = [] := List.eq_nil_of_length_eq_zero hn
      subst hl
      exact ⟨none, 0, hv, Nat.le_refl _, by simp, fun h => (h rfl).elim⟩
    · refine ⟨some ⟨g, 0, none⟩, cap, hv, h1, fun b hb => ?_, fun _ => ⟨g, cur, rfl, hh, by simpa using h4⟩⟩
      cases hb
      exact ⟨hbase, (Array.getElem?_eq_some_iff.1 hh).1⟩
  subst hv
  obtain ⟨F', hF'⟩ : ∃ F' : Nat → Nat, ∀ b, F' b = if a.map (·.block) = some b then l.length else F b := ⟨_, fun _ => rfl⟩
  refine ⟨_, F', box0, [a.map (·.block)], [(T, 1, l.length)], _, b0, hΦ, rfl, hk, fun b hb => ?_, fun b hb => ?_, fun _ _ h => h, hbl, fun j b c h1 h2 => ?_, fun j b c h1 h2 _ => ?_, fun i j b c c' h1 h2 h3 h4 _ _ => hbj i j b c c' h1 h2 h3 h4, fun j d x hd' hx _ => ?_, rfl, fun k b hkb => ?_, fun k q b h1 h2 => ?_, fun k b j c h1 h2 => ?_, ?_⟩
  · rw [hF']; split
    · rename_i h; have := (hnew b h).1; omega
    · rfl
  · rw [hF']; split
    · rename_i h; have := (hnew b h).2; omega
    · exact hout b (Nat.le_trans hw.size hb)
  · have := getElem?_lt h2; omega
  · have := hbi j b c h1
    rw [hF']; split
    · rename_i h; have := (hnew b h).1; omega
    · exact this.2 (hlv j)
  · refine (hB j d x hd' hx).later (F := F) ⟨fun b i hi => ?_, fun b => ?_, fun k t s n h => by simp at h⟩ (fun _ _ h => h) (fun b c he _ => hw.block b (hbi j b c (he ▸ hd')).1)
    · have hlt : b < w.heap.size := by
        rcases Nat.lt_or_ge b w.heap.size with h | h
        · exact h
        · rw [hout b h] at hi; omega
      exact World.cell?_of_block (w := w) (hw.block b hlt)
    · rw [hF']; split
      · rename_i h; rw [hout b (hnew b h).1]; exact Nat.zero_le _
      · exact Nat.le_refl _
  · cases k with
    | zero => simp at hkb; exact hnew b (by simpa using hkb)
    | succ k => simp at hkb
  · cases k <;> cases q <;> simp at h1 h2 ⊢
  · cases k with
    | zero => simp at h1; have := (hbi j b c h2).1; have := (hnew b (by simpa using h1)).1; omega
    | succ k => simp at h1
  · have hlen : (strs l).length = l.length := length_strs l
    rw [← hlen]
    have hcell : ∀ i s, l[i]? = some s → ∃ g, a = some ⟨g, 0, none⟩ ∧ w'.cell? ⟨g, i, none⟩ = some (mkS s) := fun i s hs => by
      obtain ⟨g, cur, hg, hh, ht⟩ := hne (by rintro rfl; simp at hs)
      refine ⟨g, hg, ?_⟩
      have h1 : (cur.toList.take l.length)[i]? = some (mkS s) := by rw [ht, List.getElem?_map, hs]; rfl
      rw [List.getElem?_take, if_pos (getElem?_lt hs)] at h1
      simp [World.cell?, hh]
      simpa using h1
    refine .list (some 0) (strs l) a cap 1 ((a.map (·.block)).getD 0) 0 (fun i _ => mkS (l.getD i [])) (by omega) (fun hx => ?_) (fun e he => ?_) (fun hx => ?_) (fun i e j c hi hj => ?_) (fun i e j c hi hj => ?_) (fun k hk' => ?_)
    · obtain ⟨g, cur, hg, _, _⟩ := hne (by rintro rfl; exact hx rfl)
      rw [hg]; rfl
    · rw [strs_eq] at he; obtain ⟨s, _, rfl⟩ := List.mem_map.1 he; rfl
    · obtain ⟨g, cur, hg, _, _⟩ := hne (by rintro rfl; exact hx rfl)
      rw [hF', hg]; simp
    · obtain ⟨s, hs, rfl, rfl⟩ := strs_get2 hi hj
      obtain ⟨g, hg, hc⟩ := hcell i s hs
      have e1 : l.getD i [] = s := by simp [List.getD, hs]
      simp only [hg, Option.map_some, Option.getD_some, Nat.zero_add, Nat.mul_one, Nat.add_zero, e1]
      exact ⟨hc, rfl⟩
    · obtain ⟨s, hs, rfl, rfl⟩ := strs_get2 hi hj
      have e1 : l.getD i [] = s := by simp [List.getD, hs]
      simp only [e1]; exact .str s
    · cases hk'
      refine ⟨T, 1, (strs l).length, rfl, Nat.le_refl _, fun _ => ⟨rfl, ⟨l.map encStr, ?_⟩, rfl, fun b hb => ?_⟩⟩
      · rw [hlen]; exact hrow
      · rw [hF', if_pos hb]; simp [hlen]
section
open Go.WideElems (rd rg Fit rg_of)
theorem rd_at {P : Program} {k e : TypeId} {es : Array MapEntry} {clock : Nat} {m : List (Str × Str)} (hk : P.underlying k = some .string) (he : P.underlying e = some .string) (h : MapIs es clock m) {j : Nat} {x : MapEntry} (hx : es.toList[j]? = some x) :
    ∃ p, m[j]? = some p ∧ rd (H := Unit) P k (plainElem P e) x = some (.string p.1, .lit (.string p.2)) := by
  obtain ⟨p, hp, h1, h2⟩ := h.get hx
  obtain ⟨l1, l2⟩ := h.len p (List.mem_of_getElem? hp)
  refine ⟨p, hp, ?_⟩
  have e1 : keyOf P k x.key = some (.string p.1) := by
    rw [h1]; exact WideMaps.keyOf_string_mk hk (s := ⟨p.1.toArray⟩) l1
  have e2 : plainElem (H := Unit) P e x.val = some (.lit (.string p.2), []) := by
    rw [h2]; exact plainElem_string he (s := ⟨p.2.toArray⟩) l2
  simp [rd, e1, e2]
theorem map_owns {P : Program} {k e : TypeId} {w : World} {b : Nat} {es : Array MapEntry} {clock : Nat} {m : List (Str × Str)} (hk : P.underlying k = some .string) (he : P.underlying e = some .string) (h : MapIs es clock m) (hb : w.heap[b]? = some (.map es clock)) :
    ∃ D0 : DataW Unit, w.ownsMap P k (plainElem P e) b m.length D0 ∧ Maps.size D0 = m.length ∧ (strKeys D0).Perm (m.map (·.1)) := by
  have hrg : es.toList.map (rg (H := Unit) P k (plainElem P e)) = m.map fun p => (Lit.string p.1, DataW.lit (.string p.2)) := by
    apply List.ext_getElem?
    intro j
    rw [List.getElem?_map, List.getElem?_map]
    cases hx : es.toList[j]? with
    | none =>
      have : m[j]? = none := by
        have hl := h.length
        rw [List.getElem?_eq_none_iff] at hx ⊢
        simp only [Array.length_toList] at hx; omega
      rw [this]; rfl
    | some x =>
      obtain ⟨p, hp, hr⟩ := rd_at hk he h hx
      rw [hp, Option.map_some, Option.map_some, rg_of hr]
  refine ⟨_, ⟨es, clock, hb, ⟨by rw [h.length]; exact h.size, h.stamped, fun x hx => ?_⟩, by rw [h.length]; exact Nat.le_refl _, rfl⟩, ?_, ?_⟩
  · obtain ⟨j, hj⟩ := List.getElem?_of_mem hx
    obtain ⟨p, _, hr⟩ := rd_at hk he h hj
    exact ⟨_, hr⟩
  · rw [hrg]
    show (List.foldr DataW.insert [] _).length = _
    rw [length_sorted, List.length_map]
  · rw [hrg]
    refine ((WideShapes.sorted_perm _).map _).trans ?_
    rw [List.map_map]
    exact List.Perm.refl _
end
theorem slSortedS.lent (b0 : List ABox) (c j : Nat) (m : List (Str × Str)) (hd : noDead b0 = true) (hc : b0[c]? = some (.cells .var [.bmap j])) (hj : b0[j]? = some (.map m)) (hm : m.length ≤ 1048576) :
    Abs.Lent false Tryz.prog 207 b0 [.clo 223 [] [.bptr c 0]] (fun x y z => x = .list (some 0) (strs (srt (m.map (·.1)))) ∧ y = b0 ∧ z = [(9, 1, m.length)]) := by
  rw [Lent_eq]
  refine ⟨by kernel_rfl, fun w F vs box0 hout hbl hbi hbj hB hargs => ?_⟩
  obtain ⟨v0, rfl⟩ : ∃ v0, vs = #[v0] := by
    have := hargs.1
    match vs, this with
    | ⟨[a]⟩, _ => exact ⟨a, rfl⟩
  obtain ⟨h0, _⟩ := Both.cons.1 hargs
  have hbx : ∀ q x, b0[q]? = some x → ∃ d, box0[q]? = some d := fun q x hx => ⟨_, List.getElem?_eq_getElem (by have := getElem?_lt hx; omega)⟩
  obtain ⟨d1, hd1⟩ := hbx c _ hc
  obtain ⟨d2, hd2⟩ := hbx j _ hj
  have o1 := hB c _ _ hd1 hc
  have o2 := hB j _ _ hd2 hj
  cases d2 with
  | nil => exact o2.elim
  | blk bm cm =>
  cases d1 with
  | nil => exact absurd o1 (by simp [BoxOk])
  | blk bc cc =>
  obtain ⟨arr, t, hh, hsz, hcell, _⟩ := o1
  obtain ⟨r1, _⟩ := hcell 0 _ rfl
  obtain ⟨es, clock, hmh, hM⟩ := o2
  have hv : arr.getD 0 undef = .map (some bm) := by
    generalize arr.getD 0 undef = u at r1
    cases r1 with
    | bmap _ b cap hb => rw [hd2] at hb; cases hb; rfl
  have hlt : bc < w.heap.size := (Array.getElem?_eq_some_iff.1 hh).1
  have hcl : w.cell? ⟨bc, 0, none⟩ = some (.map (some bm)) := by
    have h1 : 0 < arr.size := by simp at hsz; omega
    have h2 : arr[0]? = some (.map (some bm)) := by rw [← hv]; simp [Array.getD, h1]
    simp [World.cell?, hh, h2]
  have hv0 : v0 = .func (.func 223) #[] #[.pointer (some ⟨bc, 0, none⟩)] := by
    cases h0 with
    | clo f xs ys vf vc h1 h2 hr1 hr2 =>
      have e1 : vf = #[] := Array.eq_empty_of_size_eq_zero (by simpa using h1.symm)
      obtain ⟨u, rfl⟩ : ∃ u, vc = #[u] := by
        match vc, h2 with
        | ⟨[u]⟩, _ => exact ⟨u, rfl⟩
      have h3 := hr2 0 _ rfl
      obtain ⟨b, cap, hb, hu⟩ := h3.bptr_inv
      rw [hd1] at hb; cases hb
      have : u = .pointer (some ⟨bc, 0, none⟩) := hu
      rw [e1, this]
  obtain ⟨D0, hown, hDs, hperm⟩ := map_owns (P := Tryz.prog) (k := 9) (e := 9) Tryz.underlying9 Tryz.underlying9 hM hmh
  rw [hv0]
  refine (callsIn_wide.1 (Tryz.sortedKeysAt bc bm m.length D0 (plainElem Tryz.prog 9) w hlt hcl hown (by rw [hDs]; unfold maxLen; omega) (by rw [hDs]; omega))).mono ?_
  rintro e w' ⟨v, ss, rfl, hs, hrow, _, hbw⟩
  have hp := hs.trans hperm
  have hl : (srt (m.map (·.1))).length = m.length := by simp [srt]
  have e1 : ss.mergeSort (fun x y => decide (x ≤ y)) = srt (m.map (·.1)) := mergeSort_of_perm hp
  have e2 : ss.length = (srt (m.map (·.1))).length := by rw [hl, hp.length_eq, List.length_map]
  rw [e1, e2] at hrow
  exact lent_strs hd hout hbl hbi hbj hB hrow hbw ⟨rfl, rfl, by rw [hl]⟩
end Go.Proofs.YtoindmahilbalaaGreat
namespace Go.Proofs.YtoindmahilbalaaGreat
open Abs
mutual
theorem old_ok : ∀ (x : Tr) (m : Nat), noTk (old x) = true ∧ inB m (old x)
  | .v _, _ => ⟨rfl, trivial⟩
  | .s _, _ => ⟨rfl, trivial⟩
  | .l _ _ xs, _ => ⟨oldLL_ok xs, trivial⟩
  | .a fs, m => inBL_all (oldL_ok fs m)
  | .p fs, m => inBL_all (oldL_ok fs m)
theorem oldL_ok : ∀ (xs : List Tr) (m : Nat), ∀ c ∈ oldL xs, noTk c = true ∧ inB m c
  | [], _, c, hc => by simp [oldL] at hc
  | x :: xs, m, c, hc => by
    rw [oldL] at hc
    rcases List.mem_cons.1 hc with rfl | hc
    · exact old_ok x m
    · exact oldL_ok xs m c hc
theorem oldLL_ok : ∀ (xs : List (List Tr)), noTkLL (oldLL xs) = true
  | [] => rfl
  | x :: xs => by
    rw [oldLL, noTkLL, (inBL_all (oldL_ok x 0)).1, oldLL_ok xs]; rfl
end
theorem noTk_old (xs : List Tr) : ∀ c ∈ oldL xs, noTk c = true := fun c hc => (oldL_ok xs 0 c hc).1
/-- cells without slices of the call's own, and without boxes -/
def PlainC (x : List AV) : Prop := (∀ c ∈ x, noTk c = true) ∧ ∀ m, inB.inBL m x
theorem plainC_old (xs : List Tr) : PlainC (oldL xs) := ⟨noTk_old xs, fun m => (inBL_all (oldL_ok xs m)).2⟩
theorem bindF_lt {b : List VPair} (h : bindF b = true) {j : Nat} (hj : j < b.length) : badB b j = false := by
  cases hb : badB b j with
  | false => rfl
  | true => rw [bindF_no hj hb] at h; cases h
theorem bindF_len {b : List VPair} (h : bindF b = true) : b.length ≤ 6 := by
  rcases Nat.lt_or_ge 6 b.length with h1 | h1
  · rw [bindF_long (by omega)] at h; cases h
  · exact h1
theorem bindF_asc {b : List VPair} (h : bindF b = true) : ∀ (j : Nat), j + 1 < b.length → Op.bytesLess (b.getD j default).1 (b.getD (j + 1) default).1 = true := fun j hj => by
  have := bindF_lt h hj
  unfold badB at this
  simp only [Bool.or_eq_false_iff, Bool.and_eq_false_iff, decide_eq_false_iff_not, Bool.not_eq_false', Nat.add_sub_cancel] at this
  rcases this.2 with h1 | h1
  · omega
  · exact h1
theorem bindF_sorted {b : List VPair} (h : bindF b = true) : ∀ (d i : Nat), i + d + 1 < b.length → Op.bytesLess (b.getD i default).1 (b.getD (i + d + 1) default).1 = true
  | 0, i, hi => bindF_asc h i hi
  | d + 1, i, hi => blt_sto.trans _ _ _ (bindF_sorted h d i (by omega)) (bindF_asc h (i + d + 1) hi)
theorem bindF_apart {b : List VPair} (h : bindF b = true) {i j : Nat} (hij : i < j) (hj : j < b.length) : (b.getD i default).1 ≠ (b.getD j default).1 := fun e => by
  have := bindF_sorted h (j - i - 1) i (by omega)
  rw [show i + (j - i - 1) + 1 = j by omega, e, bl_irrefl] at this
  cases this
theorem mput_bind {b : List VPair} (h : bindF b = true) {i : Nat} (hi : i < b.length) : mput (b.take i) (b.getD i default).1 (b.getD i default).2 = b.take (i + 1) := by
  have hn : ∀ p ∈ b.take i, p.1 ≠ (b.getD i default).1 := fun p hp => by
    obtain ⟨j, hj⟩ := List.getElem?_of_mem hp
    rw [List.getElem?_take] at hj
    split at hj
    · rename_i hji
      have e : b.getD j default = p := by simp [List.getD, hj]
      rw [← e]; exact bindF_apart h hji hi
    · cases hj
  rw [(mget_no hn).2, take_succ' default hi]
theorem pmapOfPairs.lent (x y : List AV) (hx : PlainC x) (hy : PlainC y) (b : List VPair) (h : tPairs.size b ≤ 1048576) (hb : bindF b = true) :
    pmapOfPairs.Lent [.cells .var x, .cells .var y] [.list none (pairs b)] (fun r b1 f1 => r = .bmap 2 ∧ b1 = [.cells .var x, .cells .var y, .map b] ∧ f1 = []) := by
  refine pmapOfPairs.ofL rfl rfl ?_
  rw [tPairs_sz] at h
  skip
  refine ALoop.mk Nat (fun i => ⟨[(0, .list none (pairs b)), (3, .bmap 2), (7, .list none (pairs b)), (8, .val (.int .i64 b.length)), (9, .val (.int .i64 i))], [.cells .var x, .cells .var y, .map (b.take i)], []⟩) (fun i => i ≤ b.length) (fun i => b.length - i) ⟨0, Nat.zero_le _, ?_⟩ (fun i hi => ?_)
  · repeat' first
      | exact trivial | refine Weak.mk ?_ ?_ ?_ ?_ (Or.inl (Nat.le_of_ble_eq_true rfl)) | refine And.intro ?_ ?_ | with_reducible rfl | exact Nat.le_of_ble_eq_true rfl | refine AV.int_congr ?_ | refine AV.list_congr ?_ | (apply rfl)
    simp
  repeat' first
    | (conv => whnf
       first | refine Need.mk rfl ?_ | refine Need.mk ⟨rfl, Nat.le_of_ble_eq_true rfl⟩ ?_ | refine Need.mk (Nat.le_of_ble_eq_true rfl) ?_ | refine Need.mk ?_ ?_ | refine Ix.mapF (fun _ => rfl) ?_ | refine Fork.dec (fun _ => ?_) (fun _ => ?_) | refine Round.mk ?_ | refine FinalC.allA ?_)
  all_goals try simp only [length_rows, length_strs, length_oldLL, List.length_map, Int.toNat_natCast] at *
  · have := pr_le (l := b) i
    have h2 : (b.take i).length ≤ b.length := by simp; omega
    unfold maxLen; omega
  · refine ⟨i + 1, by omega, ?_, by omega⟩
    repeat' first
      | exact trivial | refine Weak.mk ?_ ?_ ?_ ?_ (Or.inr ⟨(by repeat' first | exact trivial | exact Nat.le_of_ble_eq_true rfl | refine And.intro ?_ ?_ | exact hx.2 _ | exact hy.2 _), (by repeat' first | exact trivial | exact Nat.le_of_ble_eq_true rfl | refine And.intro ?_ ?_ | exact hx.2 _ | exact hy.2 _)⟩) | refine And.intro ?_ ?_ | with_reducible rfl | exact Nat.le_of_ble_eq_true rfl | refine AV.int_congr ?_ | refine AV.list_congr ?_ | (apply rfl) | refine bx_cons ?_ ?_ | refine bx_map ?_
    · rw [wrap64 (by omega) (by omega)]; rfl
    · show mput (b.take i) (b.getD i default).1 (b.getD i default).2 = _
      rw [mput_bind hb (by omega)]
  · simp [List.take_of_length_le (show b.length ≤ i by omega)]
def turnStep (m : List VPair) (p : Str × Str) : Option (List VPair) :=
  if varF p.1 then (match mget m p.1 with | some v => if v = p.2 then some m else none | none => some (mput m p.1 p.2)) else if p.1 = p.2 then some m else none
def turnS (m : List VPair) : List (Str × Str) → Option (List VPair)
  | [] => some m
  | p :: l => match turnStep m p with | some m' => turnS m' l | none => none
def turnF (m : List VPair) (a x : List Str) : Option (List VPair) := if a.length = x.length then turnS m (a.zip x) else none
theorem step_no {m : List VPair} {t x : Str} (h : varF t = false) (h' : t ≠ x) : turnStep m (t, x) = none := by simp [turnStep, h, h']
theorem step_eq {m : List VPair} {t x : Str} (h : varF t = false) (h' : t = x) : turnStep m (t, x) = some m := by subst h'; simp [turnStep, h]
theorem step_new {m : List VPair} {t x : Str} (h : varF t = true) (h' : mget m t = none) : turnStep m (t, x) = some (mput m t x) := by simp [turnStep, h, h']
theorem step_bad {m : List VPair} {t x v : Str} (h : varF t = true) (h' : mget m t = some v) (h2 : v ≠ x) : turnStep m (t, x) = none := by simp [turnStep, h, h', h2]
theorem step_old {m : List VPair} {t x v : Str} (h : varF t = true) (h' : mget m t = some v) (h2 : v = x) : turnStep m (t, x) = some m := by simp [turnStep, h, h', h2]
theorem zip_drop {a x : List Str} {i : Nat} (h1 : i < a.length) (h2 : i < x.length) : (a.zip x).drop i = (a.getD i [], x.getD i []) :: (a.zip x).drop (i + 1) := by
  have h : i < (a.zip x).length := by simp; omega
  rw [List.drop_eq_getElem_cons h]
  simp [List.getD, h1, h2]
theorem mput_len (m : List VPair) (k v : Str) : (mput m k v).length ≤ m.length + 1 := by
  induction m with
  | nil => simp [mput]
  | cons p m ih =>
    rw [mput]; split
    · simp
    · simp; exact ih
theorem pturnInto.lent (x y : List AV) (hx : PlainC x) (hy : PlainC y) (m : List VPair) (a z : List Str) (ha : a.length + listSize Ty.str a ≤ 1048576) (hz : z.length + listSize Ty.str z ≤ 1048576) (hm : m.length ≤ 1048576) :
    pturnInto.Lent [.cells .var x, .cells .var y, .map m] [.list none (strs a), .list none (strs z), .bmap 2]
      (fun r b1 f1 => ∃ m', r = .val (.bool (turnF m a z).isSome) ∧ b1 = [.cells .var x, .cells .var y, .map m'] ∧ f1 = [] ∧ ∀ m0, turnF m a z = some m0 → m' = m0) := by
  refine pturnInto.ofL rfl rfl ?_
  repeat' first
    | (conv => whnf
       first | refine Need.mk rfl ?_ | refine Fork.bne (fun _ => ?_) (fun _ => ?_) | refine FinalC.allA ?_)
  all_goals try simp only [length_strs] at *
  · rename_i h
    have h : ¬ a.length = z.length := by omega
    exact ⟨m, by simp [turnF, h], by first | rfl | trivial, by first | rfl | trivial, by simp [turnF, h]⟩
  rename_i h
  have h : a.length = z.length := by omega
  refine ALoop.mk (Nat × List VPair) (fun i => ⟨[(0, .list none (strs a)), (1, .list none (strs z)), (2, .bmap 2), (16, .list none (strs a)), (17, .val (.int .i64 a.length)), (18, .val (.int .i64 i.1))], [.cells .var x, .cells .var y, .map i.2], []⟩)
    (fun i => i.1 ≤ a.length ∧ i.2.length ≤ m.length + i.1 ∧ turnS i.2 ((a.zip z).drop i.1) = turnS m (a.zip z)) (fun i => a.length - i.1) ⟨(0, m), ⟨Nat.zero_le _, by simp, rfl⟩, ?_⟩ (fun i hi => ?_)
  · repeat' first
      | exact trivial | refine Weak.mk ?_ ?_ ?_ ?_ (Or.inl (Nat.le_of_ble_eq_true rfl)) | refine And.intro ?_ ?_ | with_reducible rfl | exact Nat.le_of_ble_eq_true rfl | refine AV.int_congr ?_ | refine AV.list_congr ?_ | (apply rfl)
    simp
  obtain ⟨i, m'⟩ := i
  obtain ⟨hi, hml, ht⟩ := hi
  simp only at hi hml ht
  have fails : i < a.length → turnStep m' (a.getD i [], z.getD i []) = none → turnF m a z = none := fun hlt hs => by
    rw [zip_drop hlt (by omega), turnS, hs] at ht
    rw [turnF, if_pos h, ← ht]
  have goes : ∀ m'', i < a.length → turnStep m' (a.getD i [], z.getD i []) = some m'' → turnS m'' ((a.zip z).drop (i + 1)) = turnS m (a.zip z) := fun m'' hlt hs => by
    rw [zip_drop hlt (by omega), turnS, hs] at ht
    exact ht
  have hal := str_le' a i
  have hzl := str_le' z i
  repeat' first
    | contradiction
    | (conv => whnf
       first | refine Need.mk rfl ?_ | refine Need.mk ?_ ?_ | refine Ix.strsF rfl ?_ | refine Fork.dec (fun _ => ?_) (fun _ => ?_) | refine Fork.sne (fun _ => ?_) (fun _ => ?_) | refine Fork.neg (fun _ => ?_) (fun _ => ?_) | refine Round.mk ?_ | refine FinalC.allA ?_ | refine ACall.scalA _ _ (pIsVar.ret _ ?_) rfl ?_)
  all_goals try simp only [length_rows, length_strs, length_oldLL, List.length_map, Int.toNat_natCast] at *
  · intro _; unfold maxLen; omega
  · omega
  · rename_i h1 h2 h3
    have hf := fails (by omega) (step_no h2 h3)
    exact ⟨m', by rw [hf]; rfl, by first | rfl | trivial, by first | rfl | trivial, by simp [hf]⟩
  · rename_i h1 h2 h3
    refine ⟨(i + 1, m'), ⟨by simp only; omega, by simp only; omega, goes m' (by omega) (step_eq h2 h3)⟩, ?_, by simp only; omega⟩
    repeat' first
      | exact trivial | refine Weak.mk ?_ ?_ ?_ ?_ (Or.inl (Nat.le_of_ble_eq_true rfl)) | refine And.intro ?_ ?_ | with_reducible rfl | exact Nat.le_of_ble_eq_true rfl | refine AV.int_congr ?_ | refine AV.list_congr ?_ | (apply rfl)
    rw [wrap64 (by omega) (by omega)]; rfl
  · unfold maxLen; omega
  · rename_i h1 h2 h3 h4
    have h3 : mget m' (a.getD i []) = none := by simpa using h3
    have hl := mput_len m' (a.getD i []) (z.getD i [])
    refine ⟨(i + 1, mput m' (a.getD i []) (z.getD i [])), ⟨by simp only; omega, by simp only; omega, goes _ (by omega) (step_new h2 h3)⟩, ?_, by simp only; omega⟩
    repeat' first
      | exact trivial | refine Weak.mk ?_ ?_ ?_ ?_ (Or.inl (Nat.le_of_ble_eq_true rfl)) | refine And.intro ?_ ?_ | with_reducible rfl | exact Nat.le_of_ble_eq_true rfl | refine AV.int_congr ?_ | refine AV.list_congr ?_ | (apply rfl)
    rw [wrap64 (by omega) (by omega)]; rfl
  · rename_i h1 h2 h3 h4
    obtain ⟨v, hv⟩ := Option.isSome_iff_exists.1 h3
    rw [hv] at h4
    have h4 : v ≠ z.getD i [] := h4
    have hf := fails (by omega) (step_bad h2 hv h4)
    exact ⟨m', by rw [hf]; rfl, by first | rfl | trivial, by first | rfl | trivial, by simp [hf]⟩
  · rename_i h1 h2 h3 h4
    obtain ⟨v, hv⟩ := Option.isSome_iff_exists.1 h3
    rw [hv] at h4
    have h4 : v = z.getD i [] := h4
    refine ⟨(i + 1, m'), ⟨by simp only; omega, by simp only; omega, goes m' (by omega) (step_old h2 hv h4)⟩, ?_, by simp only; omega⟩
    repeat' first
      | exact trivial | refine Weak.mk ?_ ?_ ?_ ?_ (Or.inl (Nat.le_of_ble_eq_true rfl)) | refine And.intro ?_ ?_ | with_reducible rfl | exact Nat.le_of_ble_eq_true rfl | refine AV.int_congr ?_ | refine AV.list_congr ?_ | (apply rfl)
    rw [wrap64 (by omega) (by omega)]; rfl
  · have e : (a.zip z).drop i = [] := List.drop_eq_nil_of_le (by simp; omega)
    rw [e, turnS] at ht
    have hf : turnF m a z = some m' := by rw [turnF, if_pos h, ← ht]
    exact ⟨m', by rw [hf]; rfl, by first | rfl | trivial, by first | rfl | trivial, by rw [hf]; intro m0 e; cases e; rfl⟩
def pairsM (m : List VPair) : List VPair := (srt (m.map (·.1))).map fun k => (k, (mget m k).getD [])
theorem srt_len (l : List Str) : (srt l).length = l.length := by simp [srt]
theorem slKeys.lent (x y : List AV) (hx : PlainC x) (hy : PlainC y) (m : List VPair) :
    slKeys.Lent [.cells .var x, .cells .var y, .map m] [.bmap 2] (fun r b1 f1 => r = .clo 223 [] [.bptr 3 0] ∧ b1 = [.cells .var x, .cells .var y, .map m, .cells .var [.bmap 2]] ∧ f1 = []) := by
  refine slKeys.ofL rfl rfl ?_
  repeat' first
    | (conv => whnf
       first | refine Need.mk rfl ?_ | refine Need.mk ?_ ?_ | refine FinalC.allA ?_)
  · exact ⟨rfl, rfl⟩
  · exact ⟨rfl, rfl, rfl⟩
theorem srt_in {l : List Str} {s : Str} (h : s ∈ srt l) : s ∈ l := by simpa [srt] using h
theorem ppairsOfMap.lent (x y : List AV) (hx : PlainC x) (hy : PlainC y) (m : List VPair) (hm : m.length ≤ 1048576) (hl : ∀ p ∈ m, p.1.length ≤ 1048576) :
    Abs.Lent false Tryz.prog 190 [.cells .var x, .cells .var y, .map m] [.bmap 2]
      (fun r b1 f1 => r = .list (some 0) (pairs (pairsM m)) ∧ b1 = [.cells .var x, .cells .var y, .map m, .cells .var [.bmap 2]] ∧ f1 = [(141, 2, m.length), (9, 1, m.length)]) := by
  refine ppairsOfMap.ofL rfl rfl ?_
  have hk := slKeys.lent x y hx hy m
  have hs := slSortedS.lent [.cells .var x, .cells .var y, .map m, .cells .var [.bmap 2]] 3 2 m rfl rfl rfl hm
  have hlen : (srt (m.map (·.1))).length = m.length := by simp [srt]
  have hsl : ∀ i, ((srt (m.map (·.1))).getD i []).length ≤ 1048576 := fun i => by
    rcases Nat.lt_or_ge i (srt (m.map (·.1))).length with h | h
    · have h1 : (srt (m.map (·.1))).getD i [] ∈ srt (m.map (·.1)) := by simp [List.getD, h]
      obtain ⟨p, hp, e⟩ := List.mem_map.1 (srt_in h1)
      rw [← e]; exact hl p hp
    · have : (srt (m.map (·.1))).getD i [] = [] := by simp [List.getD, List.getElem?_eq_none h]
      rw [this]; exact Nat.zero_le _
  generalize hks : srt (m.map (·.1)) = ks at hs hlen hsl
  have hpm : pairsM m = ks.map fun k => (k, (mget m k).getD []) := by rw [pairsM, hks]
  repeat' first
    | (conv => whnf
       first | refine Need.mk rfl ?_ | refine ACall.lentE _ _ _ _ _ (Lent.weak (hk)) (by repeat' first | exact Lends.nil | refine Lends.map _ ?_ | refine Lends.lend _ _ (by first | exact hx.1 | exact hy.1 | exact noTk_old _ | (intro c hc; rw [List.mem_singleton.1 hc]; rfl) | (intro c hc; cases hc; done)) ?_) (by repeat' first | exact SeesL.nil | refine SeesL.cons ?_ ?_ | exact Or.inl ⟨rfl, rfl⟩ | exact Or.inr (Sees0.str _) | exact Or.inr (Sees0.val _) | exact Or.inr (Sees0.olds _ _) | exact Or.inr (Sees0.old _) | exact Or.inr (Sees0.oldagg _)) ?_ | refine ACall.lentS _ _ _ _ _ (hs) (by repeat' first | exact Lends.nil | refine Lends.map _ ?_ | refine Lends.lend _ _ (by first | exact hx.1 | exact hy.1 | exact noTk_old _ | (intro c hc; rw [List.mem_singleton.1 hc]; rfl) | (intro c hc; cases hc; done)) ?_) (by repeat' first | exact SeesL.nil | refine SeesL.cons ?_ ?_ | exact Or.inl ⟨rfl, rfl⟩ | exact Or.inr (Sees0.str _) | exact Or.inr (Sees0.val _) | exact Or.inr (Sees0.olds _ _) | exact Or.inr (Sees0.old _) | exact Or.inr (Sees0.oldagg _)) ?_)
  refine ALoop.mk Nat (fun i => ⟨[(0, .bmap 2), (3, .list (some 0) (pairs ((ks.take i).map fun k => (k, (mget m k).getD [])))), (9, .list (some 1) (strs ks)), (10, .val (.int .i64 ks.length)), (11, .val (.int .i64 i))], [.cells .var x, .cells .var y, .map m, .cells .var [.bmap 2]], [(141, 2, ((ks.take i).map fun k => (k, (mget m k).getD [])).length), (9, 1, m.length)]⟩)
    (fun i => i ≤ ks.length) (fun i => ks.length - i) ⟨0, Nat.zero_le _, ?_⟩ (fun i hi => ?_)
  · repeat' first
      | exact trivial | refine Weak.mk ?_ ?_ ?_ ?_ (Or.inl (Nat.le_of_ble_eq_true rfl)) | refine And.intro ?_ ?_ | with_reducible rfl | exact Nat.le_of_ble_eq_true rfl | refine fr2 ?_ ?_ | refine AV.int_congr ?_ | refine AV.list_congr ?_ | (apply rfl)
    simp
  have hkn : i < ks.length → (ks.take (i + 1)).map (fun k => (k, (mget m k).getD [])) = (ks.take i).map (fun k => (k, (mget m k).getD [])) ++ [(ks.getD i [], (mget m (ks.getD i [])).getD [])] := fun h => by
    rw [take_succ' [] h, List.map_append]; rfl
  have hsi := hsl i
  have htl : ((ks.take i).map fun k => (k, (mget m k).getD [])).length ≤ ks.length := by simp; omega
  repeat' first
    | (conv => whnf
       first | refine Need.mk rfl ?_ | refine Need.mk ?_ ?_ | refine Ix.strsF rfl ?_ | refine Fork.dec (fun _ => ?_) (fun _ => ?_) | refine Round.mk ?_ | refine Lit.read rfl ?_ | refine FinalC.allA ?_)
  all_goals try simp only [length_rows, length_strs, length_oldLL, List.length_map, Int.toNat_natCast] at *
  · intro _; unfold maxLen; omega
  · intro c hc; rw [List.mem_singleton.1 hc]; rfl
  · simp only [List.length_singleton]; omega
  · refine ⟨i + 1, by omega, ?_, by omega⟩
    repeat' first
      | exact trivial | refine Weak.mk ?_ ?_ ?_ ?_ (Or.inl (Nat.le_of_ble_eq_true rfl)) | refine And.intro ?_ ?_ | with_reducible rfl | exact Nat.le_of_ble_eq_true rfl | refine fr2 ?_ ?_ | refine AV.int_congr ?_ | refine AV.list_congr ?_ | (apply rfl)
    · rw [hkn (by omega)]; exact rows_snoc tPair ((ks.take i).map fun k => (k, (mget m k).getD [])) (ks.getD i [], (mget m (ks.getD i [])).getD [])
    · rw [wrap64 (by omega) (by omega)]; rfl
    · simp only [List.length_take, List.length_singleton]; omega
  · have e : ks.take i = ks := List.take_of_length_le (by omega)
    simp [e, hpm, hlen]
end Go.Proofs.YtoindmahilbalaaGreat
namespace Go.Proofs.YtoindmahilbalaaGreat
open Abs
def setR (v x : Str) : List VPair → List VPair
  | [] => [(v, x)]
  | p :: b => if blt v p.1 then (v, x) :: p :: b else p :: setR v x b
def extF (b : List VPair) (v x : Str) : Option (List VPair) :=
  if bindF b && varF v && atomF x then (if (valF b v).2 && decide ((valF b v).1 = x) then some b else if (valF b v).2 || decide (b.length = 6) then none else some (setR v x b)) else none
def matS (e : List VPair) : List (Str × Str) → Option (List VPair)
  | [] => some e
  | q :: l => if atomF q.1 then (if q.1 = q.2 then matS e l else none) else (match extF e q.1 q.2 with | some e' => matS e' l | none => none)
abbrev AscP (b : List VPair) : Prop := b.Pairwise fun p q => p.1 < q.1
theorem bindF_iff (b : List VPair) : bindF b = true ↔ b.length ≤ 6 ∧ (∀ p ∈ b, varF p.1 = true ∧ atomF p.2 = true) ∧ AscP b := by
  constructor
  · intro h
    refine ⟨bindF_len h, fun p hp => ?_, ?_⟩
    · obtain ⟨j, hj⟩ := List.getElem?_of_mem hp
      have hb := bindF_lt h (getElem?_lt hj)
      have e : b.getD j default = p := by simp [List.getD, hj]
      unfold badB at hb
      rw [e] at hb
      simp only [Bool.or_eq_false_iff, Bool.not_eq_false'] at hb
      exact hb.1
    · rw [AscP, List.pairwise_iff_getElem]
      intro i j hi hj hij
      have := bindF_sorted h (j - i - 1) i (by omega)
      rw [show i + (j - i - 1) + 1 = j by omega] at this
      have h2 : blt (b.getD i default).1 (b.getD j default).1 = true := this
      rw [blt_eq, decide_eq_true_eq] at h2
      simpa [List.getD, hi, hj] using h2
  · rintro ⟨h1, h2, h3⟩
    rw [bindF_yes (fun j hj => ?_)]
    · simp; omega
    · have hm : b.getD j default ∈ b := by simp [List.getD, hj]
      obtain ⟨v1, v2⟩ := h2 _ hm
      unfold badB
      rw [v1, v2]
      simp only [Bool.not_true, Bool.false_or, Bool.and_eq_false_iff, decide_eq_false_iff_not, Bool.not_eq_false']
      rcases Nat.eq_zero_or_pos j with rfl | hp
      · left; omega
      · right
        have h4 := List.pairwise_iff_getElem.1 h3 (j - 1) j (by omega) hj (by omega)
        have : blt (b.getD (j - 1) default).1 (b.getD j default).1 = true := by
          rw [blt_eq, decide_eq_true_eq]
          have hj1 : j - 1 < b.length := by omega
          simpa [List.getD, hj, hj1] using h4
        exact this
theorem atom_novar {t : Str} (h : atomF t = true) : varF t = false := by
  cases t with
  | nil => rfl
  | cons c t =>
    have hc : alnum c = true := by
      unfold atomF at h
      rw [List.all_cons, Bool.and_eq_true, Bool.and_eq_true] at h
      exact h.1.1
    cases hv : varF (c :: t) with
    | false => rfl
    | true =>
      unfold varF at hv
      simp only [Bool.and_eq_true, beq_iff_eq, List.getD_cons_zero] at hv
      have h63 : c.toNat = 63 := by have := hv.1.2; omega
      have : c = 63 := UInt8.toNat_inj.1 h63
      rw [this] at hc
      exact absurd hc (by decide)
theorem lookV_mem : ∀ {b : List VPair} {k v : Str}, lookV b k = some v → (k, v) ∈ b
  | [], _, _, h => by cases h
  | p :: b, k, v, h => by
    rw [lookV] at h
    split at h
    · rename_i e; cases h; subst e; simp
    · exact List.mem_cons_of_mem _ (lookV_mem h)
theorem lookV_none : ∀ {b : List VPair} {k : Str}, lookV b k = none → ∀ p ∈ b, p.1 ≠ k
  | [], _, _, p, hp => by simp at hp
  | q :: b, k, h, p, hp => by
    rw [lookV] at h
    split at h
    · cases h
    · rename_i e
      rcases List.mem_cons.1 hp with rfl | hp
      · exact e
      · exact lookV_none h p hp
/-- the list is the map's pairs, in order -/
structure Like (e m : List VPair) : Prop where
  asc : AscP e
  perm : (e.map (·.1)).Perm (m.map (·.1))
  val : ∀ p ∈ e, mget m p.1 = some p.2
theorem mget_key : ∀ {m : List VPair} {k v : Str}, mget m k = some v → k ∈ m.map (·.1)
  | [], _, _, h => by cases h
  | p :: m, k, v, h => by
    rw [mget] at h
    split at h
    · rename_i e; subst e; simp
    · exact List.mem_cons_of_mem _ (mget_key h)
theorem Like.len {e m : List VPair} (h : Like e m) : e.length = m.length := by simpa using h.perm.length_eq
theorem Like.look {e m : List VPair} (h : Like e m) (k : Str) : lookV e k = mget m k := by
  cases h1 : lookV e k with
  | some v => exact (h.val _ (lookV_mem h1)).symm
  | none =>
    cases h2 : mget m k with
    | none => rfl
    | some v =>
      obtain ⟨p, hp, hk⟩ := List.mem_map.1 (h.perm.symm.mem_iff.1 (mget_key h2))
      exact absurd hk (lookV_none h1 p hp)
theorem srt_fix {l : List Str} (h : l.Pairwise fun a b => a < b) : srt l = l := by
  refine List.mergeSort_of_pairwise (h.imp fun hab => ?_)
  simp only [decide_eq_true_eq]
  exact List.le_of_lt hab
theorem Like.eq {e m : List VPair} (h : Like e m) : e = pairsM m := by
  have h1 : srt (m.map (·.1)) = e.map (·.1) := by
    have h2 : srt (m.map (·.1)) = srt (e.map (·.1)) := (mergeSort_of_perm h.perm.symm : _)
    rw [h2, srt_fix (List.pairwise_map.2 h.asc)]
  rw [pairsM, h1, List.map_map]
  have h3 : ∀ p ∈ e, ((fun k => (k, (mget m k).getD [])) ∘ fun p : VPair => p.1) p = id p := fun p hp => by
    show (p.1, (mget m p.1).getD []) = p
    rw [h.val p hp]; rfl
  rw [List.map_congr_left h3, List.map_id]
theorem mem_setR {v x : Str} : ∀ {b : List VPair} {p : VPair}, p ∈ setR v x b ↔ p = (v, x) ∨ p ∈ b
  | [], p => by simp [setR]
  | q :: b, p => by
    rw [setR]
    split
    · simp
    · simp only [List.mem_cons, mem_setR (b := b)]
      constructor
      · rintro (h | h | h) <;> simp [h]
      · rintro (h | h | h) <;> simp [h]
theorem setR_perm {v x : Str} : ∀ b : List VPair, (setR v x b).Perm (b ++ [(v, x)])
  | [] => List.Perm.refl _
  | q :: b => by
    rw [setR]
    split
    · exact (List.perm_append_singleton (v, x) (q :: b)).symm
    · exact (setR_perm b).cons q
theorem setR_asc {v x : Str} : ∀ {b : List VPair}, AscP b → (∀ p ∈ b, p.1 ≠ v) → AscP (setR v x b)
  | [], _, _ => by simp [setR]
  | q :: b, h, hn => by
    obtain ⟨h1, h2⟩ := List.pairwise_cons.1 h
    rw [setR]
    split
    · rename_i hlt
      rw [blt_eq, decide_eq_true_eq] at hlt
      refine List.pairwise_cons.2 ⟨fun p hp => ?_, h⟩
      rcases List.mem_cons.1 hp with rfl | hp
      · exact hlt
      · exact List.lt_trans hlt (h1 p hp)
    · rename_i hlt
      have hlt : blt v q.1 = false := by simpa using hlt
      have h3 : q.1 < v := by
        cases h4 : blt q.1 v with
        | true => rwa [blt_eq, decide_eq_true_eq] at h4
        | false => exact absurd (blt_sto.tri _ _ h4 hlt) (hn q (by simp))
      refine List.pairwise_cons.2 ⟨fun p hp => ?_, setR_asc h2 (fun p hp => hn p (by simp [hp]))⟩
      rcases mem_setR.1 hp with rfl | hp
      · exact h3
      · exact h1 p hp
theorem mget_snoc {m : List VPair} {v x : Str} : ∀ {k : Str}, mget (m ++ [(v, x)]) k = (match mget m k with | some u => some u | none => if v = k then some x else none) := by
  induction m with
  | nil => intro k; rfl
  | cons p m ih =>
    intro k
    rw [List.cons_append, mget, mget]
    split
    · rfl
    · exact ih
theorem Like.set {e m : List VPair} (h : Like e m) {v x : Str} (hn : mget m v = none) : Like (setR v x e) (mput m v x) := by
  have hm : mput m v x = m ++ [(v, x)] := by
    refine (mget_no fun p hp he => ?_).2 x
    have hl : lookV e v = none := by rw [h.look]; exact hn
    obtain ⟨q, hq, hk⟩ := List.mem_map.1 (h.perm.symm.mem_iff.1 (List.mem_map.2 ⟨p, hp, rfl⟩))
    exact lookV_none hl q hq (hk.trans he)
  have hl : lookV e v = none := by rw [h.look]; exact hn
  rw [hm]
  refine ⟨setR_asc h.asc (lookV_none hl), ?_, fun p hp => ?_⟩
  · refine ((setR_perm e).map _).trans ?_
    rw [List.map_append, List.map_append]
    exact h.perm.append (List.Perm.refl _)
  · rw [mget_snoc]
    rcases mem_setR.1 hp with rfl | hp
    · rw [hn]; simp
    · rw [h.val p hp]
theorem turnS_len : ∀ {l : List (Str × Str)} {m m' : List VPair}, turnS m l = some m' → m.length ≤ m'.length
  | [], m, m', h => by cases h; exact Nat.le_refl _
  | q :: l, m, m', h => by
    rw [turnS] at h
    split at h
    · rename_i m1 h1
      refine Nat.le_trans ?_ (turnS_len h)
      unfold turnStep at h1
      split at h1
      · split at h1
        · split at h1
          · cases h1; exact Nat.le_refl _
          · cases h1
        · cases h1
          have : ∀ (m : List VPair) k v, m.length ≤ (mput m k v).length := fun m k v => by
            induction m with
            | nil => simp [mput]
            | cons p m ih => rw [mput]; split <;> simp; exact ih
          exact this _ _ _
      · split at h1
        · cases h1; exact Nat.le_refl _
        · cases h1
    · cases h
def fin6 (o : Option (List VPair)) : Option (List VPair) := match o with | some m => if m.length ≤ 6 then some (pairsM m) else none | none => none
theorem matS_eq : ∀ (l : List (Str × Str)) {e m : List VPair}, Like e m → bindF e = true → (∀ q ∈ l, termF q.1 = true ∧ atomF q.2 = true) → matS e l = fin6 (turnS m l)
  | [], e, m, h, hb, _ => by
    have := h.len
    have := bindF_len hb
    rw [matS, turnS, fin6, if_pos (by omega), ← h.eq]
  | q :: l, e, m, h, hb, hq => by
    obtain ⟨q1, q2⟩ := hq q (by simp)
    have hl := fun r hr => hq r (List.mem_cons_of_mem q hr)
    obtain ⟨t, x⟩ := q
    simp only at q1 q2
    rw [matS, turnS]
    simp only
    by_cases ha : atomF t = true
    · have hv : varF t = false := atom_novar ha
      rw [if_pos ha]
      by_cases htx : t = x
      · rw [if_pos htx, step_eq hv htx]; exact matS_eq l h hb hl
      · rw [if_neg htx, step_no hv htx]; rfl
    · have hv : varF t = true := by simpa [termF, ha] using q1
      have ha : atomF t = false := by simpa using ha
      rw [if_neg (by simp [ha])]
      have hval : valF e t = match mget m t with | some v => (v, true) | none => ([], false) := by
        unfold valF; rw [if_neg (by simp [ha]), if_pos hv, h.look] <;> (cases mget m t <;> rfl)
      unfold extF
      rw [hb, hv, q2, hval]
      cases hg : mget m t with
      | some v =>
        by_cases hvx : v = x
        · rw [step_old hv hg hvx]; simp [hvx]; exact matS_eq l h hb hl
        · rw [step_bad hv hg hvx]; simp [hvx, fin6]
      | none =>
        rw [step_new hv hg]
        by_cases h6 : e.length = 6
        · simp only [Bool.true_and, Bool.false_and, Bool.false_or, h6, decide_true, if_true]
          simp only [Bool.false_eq_true, if_false]
          cases ht : turnS (mput m t x) l with
          | none => rfl
          | some m' =>
            have h1 := turnS_len ht
            have h2 := h.len
            have h3 := (h.set (x := x) hg).len
            have h4 := (setR_perm (v := t) (x := x) e).length_eq
            rw [List.length_append, List.length_singleton] at h4
            rw [fin6, if_neg (by omega)]
        · simp only [Bool.true_and, Bool.false_and, Bool.false_or, h6, decide_false, Bool.false_eq_true, if_false, if_true]
          obtain ⟨b1, b2, b3⟩ := (bindF_iff e).1 hb
          have hn : lookV e t = none := by rw [h.look]; exact hg
          refine matS_eq l (h.set hg) ((bindF_iff _).2 ⟨?_, fun p hp => ?_, (h.set (x := x) hg).asc⟩) hl
          · have h4 := (setR_perm (v := t) (x := x) e).length_eq
            rw [List.length_append, List.length_singleton] at h4
            omega
          · rcases mem_setR.1 hp with rfl | hp
            · exact ⟨hv, q2⟩
            · exact b2 p hp
theorem like_self {b : List VPair} (h : bindF b = true) : Like b b := by
  obtain ⟨_, _, h3⟩ := (bindF_iff b).1 h
  refine ⟨h3, List.Perm.refl _, fun p hp => ?_⟩
  obtain ⟨j, hj⟩ := List.getElem?_of_mem hp
  refine (mget_at ?_ (show b[j]? = some (p.1, p.2) from hj)).1
  refine List.pairwise_map.2 (h3.imp fun hlt he => ?_)
  rw [he] at hlt
  exact List.lt_irrefl _ hlt
theorem var_len {x : Str} (h : varF x = true) : x.length ≤ 9 := by
  unfold varF at h
  simp only [Bool.and_eq_true] at h
  have h2 := h.2
  unfold atomF at h2
  simp only [Bool.and_eq_true, decide_eq_true_eq, List.length_drop] at h2
  have := h2.2.2
  omega
theorem mput_key {k v : Str} : ∀ {m : List VPair} {p : VPair}, p ∈ mput m k v → p.1 = k ∨ p ∈ m
  | [], p, h => by rw [mput] at h; left; rw [List.mem_singleton.1 h]
  | q :: m, p, h => by
    rw [mput] at h
    split at h
    · rcases List.mem_cons.1 h with rfl | h
      · exact .inl rfl
      · exact .inr (List.mem_cons_of_mem _ h)
    · rcases List.mem_cons.1 h with rfl | h
      · exact .inr (by simp)
      · rcases mput_key h with h | h
        · exact .inl h
        · exact .inr (List.mem_cons_of_mem _ h)
theorem turnS_var : ∀ {l : List (Str × Str)} {m m' : List VPair}, turnS m l = some m' → (∀ p ∈ m, varF p.1 = true) → ∀ p ∈ m', varF p.1 = true
  | [], m, m', h, hm => by cases h; exact hm
  | q :: l, m, m', h, hm => by
    rw [turnS] at h
    split at h
    · rename_i m1 h1
      refine turnS_var h ?_
      unfold turnStep at h1
      split at h1
      · rename_i hv
        split at h1
        · split at h1
          · cases h1; exact hm
          · cases h1
        · cases h1
          intro p hp
          rcases mput_key hp with he | hp
          · rw [he]; exact hv
          · exact hm p hp
      · split at h1
        · cases h1; exact hm
        · cases h1
    · cases h
theorem turnF_var {m m' : List VPair} {a x : List Str} (h : turnF m a x = some m') (hm : bindF m = true) : ∀ p ∈ m', p.1.length ≤ 1048576 := fun p hp => by
  unfold turnF at h
  split at h
  · have := var_len (turnS_var h (fun p hp => (((bindF_iff m).1 hm).2.1 p hp).1) p hp)
    omega
  · cases h
theorem extF_bind {b e : List VPair} {v x : Str} (h : extF b v x = some e) : bindF e = true := by
  unfold extF at h
  split at h
  · rename_i hc
    simp only [Bool.and_eq_true] at hc
    obtain ⟨⟨hb, hv⟩, hx⟩ := hc
    split at h
    · cases h; exact hb
    · rename_i h1
      split at h
      · cases h
      · rename_i h2
        cases h
        simp only [Bool.or_eq_true, decide_eq_true_eq, not_or] at h2
        obtain ⟨b1, b2, b3⟩ := (bindF_iff b).1 hb
        have ha : atomF v = false := by
          cases ha : atomF v with
          | false => rfl
          | true => rw [atom_novar ha] at hv; cases hv
        have hn : lookV b v = none := by
          have h3 := h2.1
          unfold valF at h3
          rw [if_neg (by simp [ha]), if_pos hv] at h3
          cases hl : lookV b v with
          | none => rfl
          | some u => rw [hl] at h3; simp at h3
        refine (bindF_iff _).2 ⟨?_, fun p hp => ?_, setR_asc b3 (lookV_none hn)⟩
        · have h4 := (setR_perm (v := v) (x := x) b).length_eq
          rw [List.length_append, List.length_singleton] at h4
          omega
        · rcases mem_setR.1 hp with rfl | hp
          · exact ⟨hv, hx⟩
          · exact b2 p hp
  · cases h
theorem pairs_size : ∀ {b : List VPair}, (∀ p ∈ b, varF p.1 = true ∧ atomF p.2 = true) → listSize tPair b ≤ 17 * b.length
  | [], _ => Nat.zero_le _
  | p :: b, h => by
    have h1 := pairs_size (b := b) (fun q hq => h q (by simp [hq]))
    obtain ⟨hv, ha⟩ := h p (by simp)
    have h2 := var_len hv
    unfold atomF at ha
    simp only [Bool.and_eq_true, decide_eq_true_eq] at ha
    have h3 := ha.2.2
    show (p.1.length + p.2.length) + listSize tPair b ≤ 17 * (b.length + 1)
    omega
theorem bind_size {b : List VPair} (h : bindF b = true) : tPairs.size b ≤ 1048576 := by
  obtain ⟨h1, h2, _⟩ := (bindF_iff b).1 h
  have := pairs_size h2
  rw [tPairs_sz]; omega
end Go.Proofs.YtoindmahilbalaaGreat
namespace Go.Proofs.YtoindmahilbalaaGreat
open Abs
def matF (p : VPattern) (f : Fct) (b : List VPair) : Option (List VPair) :=
  if decide (p.1 = f.1) && isPatF p && isFactF f && bindF b then fin6 (turnF b p.2 f.2) else none
theorem own_tup {α : Type} (T : Ty α) (hf : ∀ a, T.fr a = []) (e : ∀ a, T.tk a 0 = oldL (T.q a)) {F : Fr} {t k : Nat} {l : List α} (v : Value) (hv : plainV v = true) (hk : F[k]? = some (t, T.sz, l.length)) :
    ∃ ts, OwnA F [.p [.l t T.sz (l.map T.q), .v v]] [.tup [.list (some k) (rows T l), .val v]] ts ∧ ts.Nodup := by
  have := OwnA.p _ _ (plain_ownA T hf e F t k l hk (.v v hv .nil)) .nil
  rw [List.append_nil] at this
  exact ⟨[k], this, by simp⟩
theorem pMatchFact.own (p : VPattern) (f : Fct) (b : List VPair) (h1 : tPattern.size p ≤ 1048576) (h2 : tFct.size f ≤ 1048576) (h3 : tPairs.size b ≤ 1048576) :
    Abs.Own false Tryz.prog 151 [.agg (oldL (tPattern.q p)), .agg (oldL (tFct.q f)), .list none (pairs b)] (.p [.l 141 2 (((matF p f b).getD []).map tPair.q), .v (.bool (matF p f b).isSome)]) := by
  refine Own.of_irP (code := pMatchFact.code) (rs := pMatchFact.res) (K := pMatchFact.keep) Tryz.func151 rfl (by kernel_rfl) (Nat.le_of_ble_eq_true rfl) (by kernel_rfl) (by kernel_rfl) ?_
  have hx := plainC_old (tPattern.q p)
  have hy := plainC_old (tFct.q f)
  have s1 : tFct.size p ≤ 1048576 := h1
  have s2 := h2
  have s3 := h3
  rw [tFct_size, tStrs_size] at s1 s2
  rw [tPairs_sz] at s3
  generalize ho : matF p f b = o
  repeat' first
    | (conv => whnf
       first | refine Need.mk (fun h => h) ?_ | refine Need.mk rfl ?_ | refine Need.mk (Nat.le_of_ble_eq_true rfl) ?_ | refine Fork.mk (fun _ => ?_) (fun _ => ?_) | refine FinVal.keep ?_ | refine AGCall.mkA _ _ (fun hg => Ret.weak (pIsPattern.ret _ ?_)) rfl ?_ | refine AGCall.mkA _ _ (fun hg => Ret.weak (pIsFact.ret _ ?_)) rfl ?_ | refine AGCall.mkA _ _ (fun hg => Ret.weak (pIsBinding.ret _ ?_)) rfl ?_)
  · exact h1
  · exact h2
  · exact h3
  · rename_i hc
    have : o = none := by
      rw [← ho, matF, if_neg (fun hn => ?_)]
      revert hc hn
      cases hp : decide (p.1 = f.1) <;> cases isPatF p <;> cases isFactF f <;> cases bindF b <;> simp_all
    subst this
    exact own_tup tPair (fun _ => rfl) (fun _ => rfl) (.bool false) rfl rfl
  rename_i hc
  have hc : (decide (p.1 = f.1) && isPatF p && isFactF f && bindF b) = true := by
    revert hc
    cases isPatF p <;> cases isFactF f <;> cases bindF b <;> simp_all
  rw [matF, if_pos hc] at ho
  have hb : bindF b = true := by simp only [Bool.and_eq_true] at hc; exact hc.2
  have hbl := bindF_len hb
  have hmo := pmapOfPairs.lent _ _ hx hy b h3 hb
  have htu := pturnInto.lent _ _ hx hy b p.2 f.2 (by omega) (by omega) (by omega)
  repeat' first
    | (conv => whnf
       first | refine ACall.lentE _ _ _ _ _ (Lent.weak (hmo)) (by repeat' first | exact Lends.nil | refine Lends.map _ ?_ | refine Lends.lend _ _ (by first | exact hx.1 | exact hy.1 | exact noTk_old _ | (intro c hc; rw [List.mem_singleton.1 hc]; rfl) | (intro c hc; cases hc; done)) ?_) (by repeat' first | exact SeesL.nil | refine SeesL.cons ?_ ?_ | exact Or.inl ⟨rfl, rfl⟩ | exact Or.inr (Sees0.str _) | exact Or.inr (Sees0.val _) | exact Or.inr (Sees0.olds _ _) | exact Or.inr (Sees0.old _) | exact Or.inr (Sees0.oldagg _)) ?_ | refine ACall.lent rfl _ _ _ (Lent.weak (htu)) (by repeat' first | exact Lends.nil | refine Lends.map _ ?_ | refine Lends.lend _ _ (by first | exact hx.1 | exact hy.1 | exact noTk_old _ | (intro c hc; rw [List.mem_singleton.1 hc]; rfl) | (intro c hc; cases hc; done)) ?_) (by repeat' first | exact SeesL.nil | refine SeesL.cons ?_ ?_ | exact Or.inl ⟨rfl, rfl⟩ | exact Or.inr (Sees0.str _) | exact Or.inr (Sees0.val _) | exact Or.inr (Sees0.olds _ _) | exact Or.inr (Sees0.old _) | exact Or.inr (Sees0.oldagg _)) ?_)
  rintro _ _ _ ⟨m', rfl, rfl, rfl, hm'⟩
  cases ht : turnF b p.2 f.2 with
  | none =>
    rw [ht] at ho
    have ho : none = o := ho
    subst ho
    repeat' first
      | (conv => whnf
         first | refine Need.mk (fun h => h) ?_ | refine Need.mk rfl ?_ | refine Fork.decYes (by omega) ?_ | refine FinVal.keep ?_)
    all_goals exact own_tup tPair (fun _ => rfl) (fun _ => rfl) (.bool false) rfl rfl
  | some m0 =>
    have e := hm' m0 ht
    subst e
    rw [ht] at ho
    have hkl := turnF_var ht hb
    repeat' first
      | (conv => whnf
         first | refine Need.mk (fun h => h) ?_ | refine Need.mk rfl ?_ | refine Fork.dec (fun _ => ?_) (fun _ => ?_) | refine FinVal.keep ?_)
    · rename_i hc2
      have : o = none := by
        rw [← ho, fin6, if_neg (fun hl => ?_)]
        revert hc2; simp; omega
      subst this
      exact own_tup tPair (fun _ => rfl) (fun _ => rfl) (.bool false) rfl rfl
    rename_i hc2
    have hl6 : m'.length ≤ 6 := by revert hc2; simp; omega
    rw [fin6, if_pos hl6] at ho
    subst ho
    have hpp := ppairsOfMap.lent _ _ hx hy m' (by omega) hkl
    have hpl : (pairsM m').length = m'.length := by rw [pairsM, List.length_map, srt_len, List.length_map]
    repeat' first
      | (conv => whnf
         first | refine FinVal.keep ?_ | refine ACall.lentE _ _ _ _ _ (hpp) (by repeat' first | exact Lends.nil | refine Lends.map _ ?_ | refine Lends.lend _ _ (by first | exact hx.1 | exact hy.1 | exact noTk_old _ | (intro c hc; rw [List.mem_singleton.1 hc]; rfl) | (intro c hc; cases hc; done)) ?_) (by repeat' first | exact SeesL.nil | refine SeesL.cons ?_ ?_ | exact Or.inl ⟨rfl, rfl⟩ | exact Or.inr (Sees0.str _) | exact Or.inr (Sees0.val _) | exact Or.inr (Sees0.olds _ _) | exact Or.inr (Sees0.old _) | exact Or.inr (Sees0.oldagg _)) ?_)
    exact own_tup tPair (fun _ => rfl) (fun _ => rfl) (l := pairsM m') (k := 0) (.bool true) rfl (by rw [hpl]; rfl)
end Go.Proofs.YtoindmahilbalaaGreat
namespace Go.Proofs.YtoindmahilbalaaGreat
namespace Abs
theorem ACall.mkTB {α : Type} (T : Ty α) {C : Con} {lend : Bool} {f : Nat} {vs : List AV} {b : List ABox} {fr : Fr} {k : AV → List ABox → Fr → Prop} (ys : List AV) (l : List α) (v : Value) (F : Fr) (h : C.ret f ys (.tup [.list (some 0) (rows T l), .val v]) F) (hv : SeesL Sees0 vs ys)
    (hk : k (.tup [.list (some fr.length) (rows T l), .val v]) b (fr ++ F)) : ACall C lend f vs b fr k :=
  .mk ys _ _ h hv (by
    show k (.tup [.list (some (0 + fr.length)) (mapTLL _ (rows T l)), .val v]) _ _
    rw [rows, mapTLL_old, Nat.zero_add]; exact hk)
end Abs
open Abs
theorem sCopyB.ret (b : List VPair) (h : tPairs.size b ≤ 1048576) : sCopyB.Ret [.list none (pairs b)] (.list (some 0) (pairs b)) [(141, 2, b.length)] := by
  refine sCopyB.of rfl ?_
  rw [tPairs_sz] at h
  repeat' first
    | (conv => whnf
       first | refine Need.mk rfl ?_ | refine Need.mk ?_ ?_ | refine Final.mk ?_ ?_)
    | refine AV.list_congr ?_ | refine fr1 ?_
  all_goals try simp only [length_rows, length_strs, length_oldLL, List.length_map, Int.toNat_natCast] at *
  · exact rows_cut tPair b
  · simp only [List.length_nil]; omega
  · rfl
  · simp
theorem gtr_blt (a v : Str) : (!(Op.bytesLess a v || a == v)) = blt v a := by
  show (!(blt a v || a == v)) = blt v a
  cases h : blt v a with
  | true =>
    have h1 := STO.asymm blt_sto h
    have h2 : (a == v) = false := by
      rw [beq_eq_false_iff_ne]; rintro rfl; rw [blt_sto.irrefl] at h; cases h
    rw [h1, h2]; rfl
  | false =>
    cases h1 : blt a v with
    | true => rfl
    | false =>
      have := blt_sto.tri a v h1 h
      subst this; simp
theorem sSet.ret (b : List VPair) (v x : Str) (h : tPairs.size b ≤ 1048576) : sSet.Ret [.list none (pairs b), .str v, .str x] (.list (some 0) (pairs (setR v x b))) [(141, 2, (setR v x b).length)] := by
  refine sSet.of rfl ?_
  rw [tPairs_sz] at h
  have hsl := (setR_perm (v := v) (x := x) b).length_eq
  rw [List.length_append, List.length_singleton] at hsl
  repeat' first
    | (conv => whnf
       first | refine Need.mk rfl ?_)
  refine ALoop.mk (Nat × List VPair × Bool) (fun i => ⟨[(0, .list none (pairs b)), (1, .str v), (2, .str x), (7, .list (some 0) (pairs i.2.1)), (8, .val (.bool i.2.2)), (9, .val (.int .i64 i.1))], [], [(141, 2, i.2.1.length)]⟩)
    (fun i => i.1 ≤ b.length ∧ i.2.1 ++ (if i.2.2 then b.drop i.1 else setR v x (b.drop i.1)) = setR v x b) (fun i => b.length - i.1) ⟨(0, [], false), ⟨Nat.zero_le _, rfl⟩, ?_⟩ (fun i hi => ?_)
  · repeat' first
      | exact trivial | refine Weak.mk ?_ ?_ ?_ ?_ (Or.inl (Nat.le_of_ble_eq_true rfl)) | refine And.intro ?_ ?_ | with_reducible rfl | exact Nat.le_of_ble_eq_true rfl | refine fr1 ?_ | refine AV.int_congr ?_ | refine AV.bool_congr ?_ | refine AV.str_congr ?_ | refine AV.list_congr ?_ | (apply rfl)
  obtain ⟨i, o, d⟩ := i
  obtain ⟨hi, ho⟩ := hi
  simp only at hi ho
  have hol : o.length ≤ b.length + 1 := by
    have := congrArg List.length ho
    rw [List.length_append, hsl] at this; omega
  have hdr : i < b.length → b.drop i = b.getD i default :: b.drop (i + 1) := fun hlt => by
    rw [List.drop_eq_getElem_cons hlt]; simp [List.getD, hlt]
  repeat' first
    | (conv => whnf
       first | refine Need.mk (fun h => h) ?_ | refine Need.mk rfl ?_ | refine Need.mk (Nat.le_of_ble_eq_true rfl) ?_ | refine Need.mk ?_ ?_ | refine Ix.mapF (fun _ => rfl) ?_ | refine Fork.dec (fun _ => ?_) (fun _ => ?_) | refine Fork.neg (fun _ => ?_) (fun _ => ?_) | refine Fork.mk (fun _ => ?_) (fun _ => ?_) | refine Round.mk ?_ | refine Lit.read rfl ?_ | refine Final.mk ?_ ?_)
    | refine AV.list_congr ?_ | refine fr1 ?_
  all_goals try simp only [length_rows, length_strs, length_oldLL, List.length_map, Int.toNat_natCast] at *
  · intro c hc; rw [List.mem_singleton.1 hc]; rfl
  · simp only [List.length_singleton]; omega
  · simp
  · intro c hc; rw [List.mem_singleton.1 hc]; rfl
  · simp only [List.length_append, List.length_singleton, length_rows]; omega
  · rename_i hc h1
    rw [gtr_blt, Bool.and_eq_true, Bool.not_eq_true'] at hc
    obtain ⟨hd, hb⟩ := hc
    subst hd
    refine ⟨(i + 1, (o ++ [(v, x)]) ++ [b.getD i default], true), ⟨by simp only; omega, ?_⟩, ?_, by simp only; omega⟩
    · rw [hdr (by omega)] at ho
      simp only [Bool.false_eq_true, if_false, setR, hb, if_true] at ho
      simp only [if_true, List.append_assoc, List.singleton_append]
      exact ho
    · repeat' first
        | exact trivial | refine Weak.mk ?_ ?_ ?_ ?_ (Or.inl (Nat.le_of_ble_eq_true rfl)) | refine And.intro ?_ ?_ | with_reducible rfl | exact Nat.le_of_ble_eq_true rfl | refine fr1 ?_ | refine AV.int_congr ?_ | refine AV.bool_congr ?_ | refine AV.str_congr ?_ | refine AV.list_congr ?_ | (apply rfl)
      · exact (congrArg (· ++ _) (rows_snoc tPair o (v, x))).trans (rows_snoc tPair (o ++ [(v, x)]) _)
      · rw [wrap64 (by omega) (by omega)]; rfl
      · simp [length_rows]
  · intro c hc; rw [List.mem_singleton.1 hc]; rfl
  · simp only [List.length_singleton]; omega
  · rename_i hc h1
    refine ⟨(i + 1, o ++ [b.getD i default], d), ⟨by simp only; omega, ?_⟩, ?_, by simp only; omega⟩
    · rw [hdr (by omega)] at ho
      cases d with
      | true => simpa using ho
      | false =>
        rw [gtr_blt] at hc
        have hb : blt v (b.getD i default).1 = false := by simpa using hc
        simp only [Bool.false_eq_true, if_false, setR, hb] at ho
        simp only [Bool.false_eq_true, if_false, List.append_assoc, List.singleton_append]
        exact ho
    · repeat' first
        | exact trivial | refine Weak.mk ?_ ?_ ?_ ?_ (Or.inl (Nat.le_of_ble_eq_true rfl)) | refine And.intro ?_ ?_ | with_reducible rfl | exact Nat.le_of_ble_eq_true rfl | refine fr1 ?_ | refine AV.int_congr ?_ | refine AV.bool_congr ?_ | refine AV.str_congr ?_ | refine AV.list_congr ?_ | (apply rfl)
      · exact rows_snoc tPair o _
      · rw [wrap64 (by omega) (by omega)]; rfl
      · simp
  · intro c hc; rw [List.mem_singleton.1 hc]; rfl
  · simp only [List.length_singleton]; omega
  · rename_i hd h1
    subst hd
    have e : b.drop i = [] := List.drop_eq_nil_of_le (by omega)
    rw [e] at ho
    have ho : o ++ [(v, x)] = setR v x b := ho
    rw [← ho]; exact rows_snoc tPair o (v, x)
  · rename_i hd h1
    subst hd
    have e : b.drop i = [] := List.drop_eq_nil_of_le (by omega)
    rw [e] at ho
    have ho : o ++ [(v, x)] = setR v x b := ho
    rw [← ho, List.length_append]; rfl
  · rename_i hd h1
    subst hd
    have e : b.drop i = [] := List.drop_eq_nil_of_le (by omega)
    rw [e] at ho
    have ho : o ++ [] = setR v x b := ho
    rw [← ho, List.append_nil]
  · rename_i hd h1
    subst hd
    have e : b.drop i = [] := List.drop_eq_nil_of_le (by omega)
    rw [e] at ho
    have ho : o ++ [] = setR v x b := ho
    rw [← ho, List.append_nil]
theorem ext_none {b : List VPair} {v x : Str} (h : (!bindF b || !varF v || !atomF x) = true) : extF b v x = none := by
  unfold extF
  rw [if_neg]
  intro hc
  simp only [Bool.and_eq_true] at hc
  simp [hc.1.1, hc.1.2, hc.2] at h
theorem ext_ok {b : List VPair} {v x : Str} (h : (!bindF b || !varF v || !atomF x) = false) : extF b v x = if (valF b v).2 && decide ((valF b v).1 = x) then some b else if (valF b v).2 || decide (b.length = 6) then none else some (setR v x b) := by
  unfold extF
  rw [if_pos]
  simpa using h
theorem ext_same {b : List VPair} {v x : Str} (h : (!bindF b || !varF v || !atomF x) = false) (hs : ((valF b v).2 && (valF b v).1 == x) = true) : extF b v x = some b := by
  rw [ext_ok h, if_pos (by simpa using hs)]
theorem ext_full {b : List VPair} {v x : Str} (h : (!bindF b || !varF v || !atomF x) = false) (hs : ((valF b v).2 && (valF b v).1 == x) = false) (h6 : ((valF b v).2 || (b.length : Int) == 6) = true) : extF b v x = none := by
  rw [ext_ok h, if_neg (by simpa using hs), if_pos]
  simp only [Bool.or_eq_true, decide_eq_true_eq, beq_iff_eq] at h6 ⊢
  exact h6.imp id (by omega)
theorem ext_new {b : List VPair} {v x : Str} (h : (!bindF b || !varF v || !atomF x) = false) (hs : ((valF b v).2 && (valF b v).1 == x) = false) (h6 : ((valF b v).2 || (b.length : Int) == 6) = false) : extF b v x = some (setR v x b) := by
  rw [ext_ok h, if_neg (by simpa using hs), if_neg]
  simp only [Bool.or_eq_true, decide_eq_true_eq, Bool.or_eq_false_iff, beq_eq_false_iff_ne] at h6 ⊢
  rintro (h7 | h7)
  · rw [h6.1] at h7; cases h7
  · exact h6.2 (by omega)
theorem sExtend.ret (b : List VPair) (v x : Str) (h : tPairs.size b ≤ 1048576) (hv : v.length ≤ 1048576) (hx : x.length ≤ 1048576) :
    sExtend.Ret [.list none (pairs b), .str v, .str x] (.tup [.list (some 0) (pairs ((extF b v x).getD [])), .val (.bool (extF b v x).isSome)]) [(141, 2, ((extF b v x).getD []).length)] := by
  refine sExtend.of rfl ?_
  generalize ho : extF b v x = o
  repeat' first
    | (conv => whnf
       first | refine Need.mk (fun h => h) ?_ | refine Need.mk rfl ?_ | refine Fork.mk (fun _ => ?_) (fun _ => ?_) | refine FinVal.keep ?_ | refine Final.mk ?_ ?_ | refine ACall.scalA _ _ (sIsBinding.ret _ ?_) rfl ?_ | refine AGCall.mkA _ _ (fun hg => sIsVar.ret _ ?_) rfl ?_ | refine AGCall.mkA _ _ (fun hg => sIsAtom.ret _ ?_) rfl ?_ | refine ACall.scalA _ _ (sValueOf.ret _ _ ?_ ?_) rfl ?_ | refine ACall.mkLA _ _ _ _ (sCopyB.ret _ ?_) ?_ | refine ACall.mkLA _ _ _ _ (sSet.ret _ _ _ ?_) ?_)
    | refine fr1 ?_
  · exact h
  · exact hv
  · exact hx
  · rename_i hc; rw [ext_none hc] at ho; subst ho; rfl
  · rename_i hc; rw [ext_none hc] at ho; subst ho; rfl
  · exact h
  · exact hv
  · exact h
  · rename_i hc hs; rw [ext_same hc hs] at ho; subst ho; rfl
  · rename_i hc hs; rw [ext_same hc hs] at ho; subst ho; rfl
  all_goals (try simp only [length_rows] at *)
  · rename_i hc hs h6; rw [ext_full hc hs h6] at ho; subst ho; rfl
  · rename_i hc hs h6; rw [ext_full hc hs h6] at ho; subst ho; rfl
  · exact h
  · rename_i hc hs h6; rw [ext_new hc hs h6] at ho; subst ho; rfl
  · rename_i hc hs h6; rw [ext_new hc hs h6] at ho; subst ho; rfl
theorem matS_no {e : List VPair} {t x : Str} {l : List (Str × Str)} (ha : atomF t = true) (h : t ≠ x) : matS e ((t, x) :: l) = none := by simp [matS, ha, h]
theorem matS_at {e : List VPair} {t x : Str} {l : List (Str × Str)} (ha : atomF t = true) (h : t = x) : matS e ((t, x) :: l) = matS e l := by subst h; simp [matS, ha]
theorem matS_var {e : List VPair} {t x : Str} {l : List (Str × Str)} (ha : atomF t = false) : matS e ((t, x) :: l) = match extF e t x with | some e' => matS e' l | none => none := by simp only [matS, ha, Bool.false_eq_true, if_false] <;> (cases extF e t x <;> rfl)
def matM (p : VPattern) (f : Fct) (b : List VPair) : Option (List VPair) :=
  if isPatF p && isFactF f && bindF b && decide (p.1 = f.1) && decide (p.2.length = f.2.length) then matS b (p.2.zip f.2) else none
theorem own_tup' {α : Type} (T : Ty α) (hf : ∀ a, T.fr a = []) (e : ∀ a, T.tk a 0 = oldL (T.q a)) {F : Fr} {t k : Nat} {l : List α} (v : Value) (hv : plainV v = true) (hk : F[k]? = some (t, T.sz, l.length)) :
    ∃ ts, OwnA F [.p [.l t T.sz (l.map T.q), .v v]] [.tup [.list (some k) (rows T l), .val v]] ts ∧ ts.Nodup := by
  have := OwnA.p _ _ (plain_ownA T hf e F t k l hk (.v v hv .nil)) .nil
  rw [List.append_nil] at this
  exact ⟨[k], this, by simp⟩
theorem sMatchFact.own (p : VPattern) (f : Fct) (b : List VPair) (h1 : tPattern.size p ≤ 1048576) (h2 : tFct.size f ≤ 1048576) (h3 : tPairs.size b ≤ 1048576) :
    sMatchFact.Own [.agg (oldL (tPattern.q p)), .agg (oldL (tFct.q f)), .list none (pairs b)] (.p [.l 141 2 (((matM p f b).getD []).map tPair.q), .v (.bool (matM p f b).isSome)]) := by
  refine Own.of_irP (code := sMatchFact.code) (rs := sMatchFact.res) (K := sMatchFact.keep) Tryz.func129 rfl (by kernel_rfl) (Nat.le_of_ble_eq_true rfl) (by kernel_rfl) (by kernel_rfl) ?_
  have s1 : tFct.size p ≤ 1048576 := h1
  have s2 := h2
  have s3 := h3
  rw [tFct_size, tStrs_size] at s1 s2
  rw [tPairs_sz] at s3
  generalize ho : matM p f b = o
  have ecast : ((p.2.length : Int) != (f.2.length : Int)) = (p.2.length != f.2.length) := by rw [Bool.eq_iff_iff]; simp; omega
  repeat' first
    | (conv => whnf
       first | refine Need.mk (fun h => h) ?_ | refine Need.mk rfl ?_ | refine Need.mk (Nat.le_of_ble_eq_true rfl) ?_ | refine Fork.mk (fun _ => ?_) (fun _ => ?_) | refine FinVal.keep ?_ | refine ACall.scalA _ _ (sIsPattern.ret _ ?_) rfl ?_ | refine AGCall.mkA _ _ (fun hg => sIsFact.ret _ ?_) rfl ?_ | refine AGCall.mkA _ _ (fun hg => sIsBinding.ret _ ?_) rfl ?_ | refine ACall.mkLA _ _ _ _ (sCopyB.ret _ ?_) ?_)
  · exact h1
  · exact h2
  · exact h3
  · rename_i hc
    simp only [length_oldLL, List.length_map, ecast] at hc
    have : o = none := by
      rw [← ho, matM, if_neg (fun hn => ?_)]
      revert hc hn
      cases isPatF p <;> cases isFactF f <;> cases bindF b <;> simp_all
      rintro (h | h) h'
      · exact absurd h' h
      · exact h
    subst this
    exact own_tup' tPair (fun _ => rfl) (fun _ => rfl) (.bool false) rfl rfl
  · exact h3
  rename_i hc
  simp only [length_oldLL, List.length_map, ecast] at hc
  have hc : (isPatF p && isFactF f && bindF b && decide (p.1 = f.1) && decide (p.2.length = f.2.length)) = true := by
    revert hc
    cases isPatF p <;> cases isFactF f <;> cases bindF b <;> simp_all
  rw [matM, if_pos hc] at ho
  simp only [Bool.and_eq_true, decide_eq_true_eq] at hc
  obtain ⟨⟨⟨⟨hpat, hfct⟩, hb⟩, _⟩, hlen⟩ := hc
  refine ALoop.mk (Nat × Fr × Nat × List VPair) (fun i => ⟨[(0, .agg (oldL (tPattern.q p))), (1, .agg (oldL (tFct.q f))), (2, .list none (pairs b)), (3, .bptr 0 0), (4, .bptr 1 0), (8, .list (some i.2.2.1) (pairs i.2.2.2)), (9, .val (.int .i64 i.1))], [.cells .var (oldL (tPattern.q p)), .cells .var (oldL (tFct.q f))], i.2.1⟩)
    (fun i => i.1 ≤ p.2.length ∧ i.2.1[i.2.2.1]? = some (141, 2, i.2.2.2.length) ∧ bindF i.2.2.2 = true ∧ matS i.2.2.2 ((p.2.zip f.2).drop i.1) = o) (fun i => p.2.length - i.1) ⟨(0, [(141, 2, b.length)], 0, b), ⟨Nat.zero_le _, rfl, hb, ho⟩, ?_⟩ (fun i hi => ?_)
  · repeat' first
      | exact trivial | refine Weak.mk ?_ ?_ ?_ ?_ (Or.inl (Nat.le_of_ble_eq_true rfl)) | refine And.intro ?_ ?_ | with_reducible rfl | exact Nat.le_of_ble_eq_true rfl | refine fr1 ?_ | refine AV.int_congr ?_ | refine AV.list_congr ?_ | (apply rfl)
  obtain ⟨i, F, k, e⟩ := i
  obtain ⟨hi, hF, hbe, hm⟩ := hi
  simp only at hi hF hbe hm
  have hal := str_le' p.2 i
  have hzl := str_le' f.2 i
  repeat' first
    | (conv => whnf
       first | refine Need.mk rfl ?_ | refine Ix.strsF rfl ?_ | refine Fork.dec (fun _ => ?_) (fun _ => ?_) | refine Fork.sne (fun _ => ?_) (fun _ => ?_) | refine Fork.neg (fun _ => ?_) (fun _ => ?_) | refine Fork.mk (fun _ => ?_) (fun _ => ?_) | refine Round.mk ?_ | refine FinVal.keep ?_ | refine ACall.scalA _ _ (sIsAtom.ret _ ?_) rfl ?_ | refine ACall.mkTB tPair _ _ _ _ (sExtend.ret _ _ _ ?_ ?_ ?_) (by repeat' first | exact SeesL.nil | refine SeesL.cons ?_ ?_ | exact SeesB.of0 (Sees0.val _) | exact SeesB.of0 (Sees0.str _) | exact SeesB.of0 (Sees0.olds _ _) | exact SeesB.of0 (Sees0.old _) | exact SeesB.of0 (Sees0.oldagg _) | exact SeesB.of0 Sees0.nil | exact Sees0.val _ | exact Sees0.str _ | exact Sees0.olds _ _ | exact Sees0.old _ | exact Sees0.oldagg _ | exact Sees0.nil | exact SeesB.of0 (Sees0.any _) | assumption | exact sees_gv _ _ _ (by assumption) (by first | assumption | exact BoxIn.last _ _ | exact BoxIn.more (BoxIn.last _ _) _) | refine SeesB.agg ?_ | refine Sees0.agg ?_ | exact SeesB.of0 (Sees0.clo SeesL.nil SeesL.nil) | exact Sees0.clo SeesL.nil SeesL.nil | exact SeesB.of0 (Sees0.list rfl) | exact Sees0.list rfl) ?_)
  all_goals (try simp only [length_oldLL, List.length_map, Int.toNat_natCast] at *)
  · omega
  · rename_i ha hne hlt
    rw [zip_drop (by omega) (by omega), matS_no ha hne] at hm
    subst hm
    exact own_tup' tPair (fun _ => rfl) (fun _ => rfl) (.bool false) rfl (by simp; rfl)
  · rename_i ha heq hlt
    rw [zip_drop (by omega) (by omega), matS_at ha heq] at hm
    refine ⟨(i + 1, F, k, e), ⟨by simp only; omega, hF, hbe, hm⟩, ?_, by simp only; omega⟩
    repeat' first
      | exact trivial | refine Weak.mk ?_ ?_ ?_ ?_ (Or.inl (Nat.le_of_ble_eq_true rfl)) | refine And.intro ?_ ?_ | with_reducible rfl | exact Nat.le_of_ble_eq_true rfl | refine AV.int_congr ?_ | refine AV.list_congr ?_ | (apply rfl)
    rw [wrap64 (by omega) (by omega)]; rfl
  · exact bind_size hbe
  · omega
  · omega
  · rename_i ha hno hlt
    have hx := Option.isSome_eq_false_iff.1 hno
    rw [zip_drop (by omega) (by omega), matS_var ha, Option.isNone_iff_eq_none.1 hx] at hm
    have hm : none = o := hm
    subst hm
    exact own_tup' tPair (fun _ => rfl) (fun _ => rfl) (.bool false) rfl (by simp; rfl)
  · rename_i ha hso hlt
    obtain ⟨e', he⟩ := Option.isSome_iff_exists.1 hso
    rw [zip_drop (by omega) (by omega), matS_var ha, he] at hm
    have hm : matS e' ((p.2.zip f.2).drop (i + 1)) = o := hm
    refine ⟨(i + 1, F ++ [(141, 2, e'.length)], F.length, e'), ⟨by simp only; omega, by simp, extF_bind he, hm⟩, ?_, by simp only; omega⟩
    rw [he]
    repeat' first
      | exact trivial | refine Weak.mk ?_ ?_ ?_ ?_ (Or.inl (Nat.le_of_ble_eq_true rfl)) | refine And.intro ?_ ?_ | with_reducible rfl | exact Nat.le_of_ble_eq_true rfl | refine AV.int_congr ?_ | refine AV.list_congr ?_ | (apply rfl)
    rw [wrap64 (by omega) (by omega)]; rfl
  · have e0 : (p.2.zip f.2).drop i = [] := List.drop_eq_nil_of_le (by simp; omega)
    rw [e0, matS] at hm
    subst hm
    exact own_tup' tPair (fun _ => rfl) (fun _ => rfl) (l := e) (.bool true) rfl hF
end Go.Proofs.YtoindmahilbalaaGreat
namespace Go.Proofs.YtoindmahilbalaaGreat
open Abs
theorem matM_eq (p : VPattern) (f : Fct) (b : List VPair) : matM p f b = matF p f b := by
  unfold matM matF
  by_cases hc : (decide (p.1 = f.1) && isPatF p && isFactF f && bindF b) = true
  · rw [if_pos hc]
    have hc' := hc
    simp only [Bool.and_eq_true] at hc'
    obtain ⟨⟨⟨h1, h2⟩, h3⟩, h4⟩ := hc'
    rw [h1, h2, h3, h4]
    simp only [Bool.true_and, decide_eq_true_eq]
    unfold turnF
    by_cases hl : p.2.length = f.2.length
    · rw [if_pos hl, if_pos hl]
      refine matS_eq _ (like_self h4) h4 (fun q hq => ?_)
      have h5 : p.2.all termF = true := by
        unfold isPatF tupF at h2; simp only [Bool.and_eq_true] at h2; exact h2.2
      have h6 : f.2.all atomF = true := by
        unfold isFactF at h3; simp only [Bool.and_eq_true] at h3; exact h3.2
      obtain ⟨t, x⟩ := q
      have h7 := List.of_mem_zip hq
      exact ⟨List.all_eq_true.1 h5 t h7.1, List.all_eq_true.1 h6 x h7.2⟩
    · rw [if_neg hl, if_neg hl]; rfl
  · rw [if_neg hc, if_neg]
    intro hn
    apply hc
    simp only [Bool.and_eq_true] at hn ⊢
    obtain ⟨⟨⟨⟨a, b⟩, c⟩, d⟩, _⟩ := hn
    exact ⟨⟨⟨d, a⟩, b⟩, c⟩
end Go.Proofs.YtoindmahilbalaaGreat
namespace Go.Proofs.YtoindmahilbalaaGreat
open Abs
def mchF (p : VPattern) (b : List VPair) (l : List Fct) : List Fct := l.filter fun f => (matM p f b).isSome
theorem mch_yes {p : VPattern} {b : List VPair} {l : List Fct} {i : Nat} (hi : i < l.length) (h : (matM p (l.getD i default) b).isSome = true) : mchF p b (l.take (i + 1)) = mchF p b (l.take i) ++ [l.getD i default] := by
  rw [take_succ' default hi, mchF, List.filter_append]
  simp only [List.filter_cons, h]; simp [mchF]
theorem mch_no {p : VPattern} {b : List VPair} {l : List Fct} {i : Nat} (hi : i < l.length) (h : (matM p (l.getD i default) b).isSome = false) : mchF p b (l.take (i + 1)) = mchF p b (l.take i) := by
  rw [take_succ' default hi, mchF, List.filter_append]
  simp only [List.filter_cons, h]; simp [mchF]
theorem mch_len (p : VPattern) (b : List VPair) (l : List Fct) (i : Nat) : (mchF p b (l.take i)).length ≤ l.length := by
  refine Nat.le_trans (List.length_filter_le _ _) ?_
  rw [List.length_take]; omega
theorem ok_mat (l : List VPair) (v : Bool) : okT (.p [.l 141 2 (l.map tPair.q), .v (.bool v)]) = true := by
  have := ok_list tPair 141 l
  simp [okT, okTL] at this ⊢
  exact this
theorem sMatchingFacts.ret (p : VPattern) (b : List VPair) (l : List Fct) (h1 : tPattern.size p ≤ 1048576) (h2 : tPairs.size b ≤ 1048576) (h : tFcts.size l ≤ 1048576) :
    sMatchingFacts.Ret [.agg (oldL (tPattern.q p)), .list none (pairs b), .list none (facts l)] (.list (some 0) (tks tFct (mchF p b l) 1)) (accFr (mchF p b l)) := by
  refine sMatchingFacts.of rfl ?_
  rw [tFcts_size] at h
  repeat' first
    | (conv => whnf
       first | refine Need.mk rfl ?_)
  refine ALoop.mk Nat (fun i => ⟨[(0, .agg (oldL (tPattern.q p))), (1, .list none (pairs b)), (2, .list none (facts l)), (3, .bptr 0 0), (7, .list (some 0) (tks tFct (mchF p b (l.take i)) 1)), (8, .val (.int .i64 i))], [.cells .var (oldL (tPattern.q p))], accFr (mchF p b (l.take i))⟩) (fun i => i ≤ l.length) (fun i => l.length - i) ⟨0, Nat.zero_le _, ?_⟩ (fun i hi => ?_)
  · repeat' first
      | exact trivial | refine Weak.mk ?_ ?_ ?_ ?_ (Or.inl (Nat.le_of_ble_eq_true rfl)) | refine And.intro ?_ ?_ | with_reducible rfl | exact Nat.le_of_ble_eq_true rfl | refine fr1 ?_ | refine AV.int_congr ?_ | refine AV.list_congr ?_ | (apply rfl)
  have hlen := mch_len p b l i
  have hsz : i < l.length → tFct.size (l.getD i default) ≤ 1048576 := fun hi => by have := fct_le hi; omega
  by_cases hi' : i < l.length
  rotate_left
  · repeat' first
      | (conv => whnf
         first | refine Need.mk rfl ?_ | refine Need.mk (Nat.le_of_ble_eq_true rfl) ?_ | refine Ix.mapF (fun _ => rfl) ?_ | refine Fork.dec (fun _ => ?_) (fun _ => ?_) | refine Final.mk ?_ ?_)
      | refine AV.list_congr ?_
    all_goals try simp only [length_rows, length_strs, length_oldLL, List.length_map, Int.toNat_natCast] at *
    all_goals first
      | omega
      | (rw [List.take_of_length_le (by omega)]; done)
      | (rename_i h9; omega)
  have hm := sMatchFact.own p (l.getD i default) b h1 (hsz hi') h2
  have hok := ok_mat ((matM p (l.getD i default) b).getD []) (matM p (l.getD i default) b).isSome
  repeat' first
    | (conv => whnf
       first | refine Need.mk rfl ?_ | refine Need.mk (Nat.le_of_ble_eq_true rfl) ?_ | refine Need.mk ?_ ?_ | refine Ix.mapF (fun _ => rfl) ?_ | refine Fork.dec (fun _ => ?_) (fun _ => ?_) | refine Fork.mk (fun _ => ?_) (fun _ => ?_) | refine Round.mk ?_ | refine Lit.read rfl ?_ | refine Final.mk ?_ ?_ | refine ACall.oldA _ _ (hm) ?_ | refine ACall.mkFct _ _ (sCopy.ret _ ?_) (by repeat' first | exact SeesL.nil | refine SeesL.cons ?_ ?_ | exact SeesB.of0 (Sees0.val _) | exact SeesB.of0 (Sees0.str _) | exact SeesB.of0 (Sees0.olds _ _) | exact SeesB.of0 (Sees0.old _) | exact SeesB.of0 (Sees0.oldagg _) | exact SeesB.of0 Sees0.nil | exact Sees0.val _ | exact Sees0.str _ | exact Sees0.olds _ _ | exact Sees0.old _ | exact Sees0.oldagg _ | exact Sees0.nil | exact SeesB.of0 (Sees0.any _) | assumption | exact sees_gv _ _ _ (by assumption) (by first | assumption | exact BoxIn.last _ _ | exact BoxIn.more (BoxIn.last _ _) _) | refine SeesB.agg ?_ | refine Sees0.agg ?_ | exact SeesB.of0 (Sees0.clo SeesL.nil SeesL.nil) | exact Sees0.clo SeesL.nil SeesL.nil | exact SeesB.of0 (Sees0.list rfl) | exact Sees0.list rfl) ?_)
    | refine AV.list_congr ?_
  all_goals try simp only [length_rows, length_strs, length_oldLL, List.length_map, Int.toNat_natCast] at *
  · exact hsz hi'
  · rw [length_tks]
  · intro c hc; rw [List.mem_singleton.1 hc]; exact tFct.htk _ _
  · rw [length_tks]; simp only [List.length_singleton]; omega
  · have h1 : (matM p (l.getD i default) b).isSome = true := by assumption
    refine ⟨i + 1, by omega, ?_, by omega⟩
    repeat' first
      | exact trivial | refine Weak.mk ?_ ?_ ?_ ?_ (Or.inl (Nat.le_of_ble_eq_true rfl)) | refine And.intro ?_ ?_ | with_reducible rfl | exact Nat.le_of_ble_eq_true rfl | refine AV.int_congr ?_ | refine AV.list_congr ?_ | (apply rfl)
    · rw [acc_snoc, mch_yes hi' h1]
    · rw [wrap64 (by omega) (by omega)]; rfl
    · rw [length_tks, mch_yes hi' h1]; exact accFr_snoc _ _
  · have h1 : (matM p (l.getD i default) b).isSome = false := by assumption
    refine ⟨i + 1, by omega, ?_, by omega⟩
    repeat' first
      | exact trivial | refine Weak.mk ?_ ?_ ?_ ?_ (Or.inl (Nat.le_of_ble_eq_true rfl)) | refine And.intro ?_ ?_ | with_reducible rfl | exact Nat.le_of_ble_eq_true rfl | refine AV.int_congr ?_ | refine AV.list_congr ?_ | (apply rfl)
    · rw [mch_no hi' h1]
    · rw [wrap64 (by omega) (by omega)]; rfl
    · rw [mch_no hi' h1]
  all_goals (exfalso; omega)
theorem pMatchingFacts.ret (p : VPattern) (b : List VPair) (l : List Fct) (h1 : tPattern.size p ≤ 1048576) (h2 : tPairs.size b ≤ 1048576) (h : tFcts.size l ≤ 1048576) :
    pMatchingFacts.RetN [.agg (oldL (tPattern.q p)), .list none (pairs b), .list none (facts l)] (.list (some 0) (tks tFct (mchF p b l) 1)) (accFr (mchF p b l)) := by
  refine pMatchingFacts.of rfl ?_
  rw [tFcts_size] at h
  repeat' first
    | (conv => whnf
       first | refine Need.mk rfl ?_)
  refine ALoop.mk Nat (fun i => ⟨[(0, .agg (oldL (tPattern.q p))), (1, .list none (pairs b)), (2, .list none (facts l)), (3, .bptr 0 0), (7, .list (some 0) (tks tFct (mchF p b (l.take i)) 1)), (13, .list none (facts l)), (14, .val (.int .i64 l.length)), (15, .val (.int .i64 i))], [.cells .var (oldL (tPattern.q p))], accFr (mchF p b (l.take i))⟩) (fun i => i ≤ l.length) (fun i => l.length - i) ⟨0, Nat.zero_le _, ?_⟩ (fun i hi => ?_)
  · repeat' first
      | exact trivial | refine Weak.mk ?_ ?_ ?_ ?_ (Or.inl (Nat.le_of_ble_eq_true rfl)) | refine And.intro ?_ ?_ | with_reducible rfl | exact Nat.le_of_ble_eq_true rfl | refine fr1 ?_ | refine AV.int_congr ?_ | refine AV.list_congr ?_ | (apply rfl)
    simp
  have hlen := mch_len p b l i
  have hsz : i < l.length → tFct.size (l.getD i default) ≤ 1048576 := fun hi => by have := fct_le hi; omega
  by_cases hi' : i < l.length
  rotate_left
  · repeat' first
      | (conv => whnf
         first | refine Need.mk rfl ?_ | refine Fork.decNo (by omega) ?_ | refine Final.mk ?_ ?_)
      | refine AV.list_congr ?_
    all_goals try simp only [length_rows, length_strs, length_oldLL, List.length_map, Int.toNat_natCast] at *
    all_goals first
      | omega
      | (rw [List.take_of_length_le (by omega)]; done)
      | (rename_i h9; omega)
  have hm := (matM_eq p (l.getD i default) b).symm ▸ pMatchFact.own p (l.getD i default) b h1 (hsz hi') h2
  have hok := ok_mat ((matM p (l.getD i default) b).getD []) (matM p (l.getD i default) b).isSome
  repeat' first
    | (conv => whnf
       first | refine Need.mk rfl ?_ | refine Need.mk ⟨rfl, Nat.le_of_ble_eq_true rfl⟩ ?_ | refine Need.mk (Nat.le_of_ble_eq_true rfl) ?_ | refine Need.mk ?_ ?_ | refine Ix.mapF (fun _ => rfl) ?_ | refine Fork.decYes (by omega) ?_ | refine Fork.mk (fun _ => ?_) (fun _ => ?_) | refine Round.mk ?_ | refine Lit.read rfl ?_ | refine ACall.oldA _ _ (hm) ?_ | refine ACall.mkFct _ _ (Ret.weak (pcopyFact.ret _ ?_)) (by repeat' first | exact SeesL.nil | refine SeesL.cons ?_ ?_ | exact SeesB.of0 (Sees0.val _) | exact SeesB.of0 (Sees0.str _) | exact SeesB.of0 (Sees0.olds _ _) | exact SeesB.of0 (Sees0.old _) | exact SeesB.of0 (Sees0.oldagg _) | exact SeesB.of0 Sees0.nil | exact Sees0.val _ | exact Sees0.str _ | exact Sees0.olds _ _ | exact Sees0.old _ | exact Sees0.oldagg _ | exact Sees0.nil | exact SeesB.of0 (Sees0.any _) | assumption | exact sees_gv _ _ _ (by assumption) (by first | assumption | exact BoxIn.last _ _ | exact BoxIn.more (BoxIn.last _ _) _) | refine SeesB.agg ?_ | refine Sees0.agg ?_ | exact SeesB.of0 (Sees0.clo SeesL.nil SeesL.nil) | exact Sees0.clo SeesL.nil SeesL.nil | exact SeesB.of0 (Sees0.list rfl) | exact Sees0.list rfl) ?_)
  all_goals try simp only [length_rows, length_strs, length_oldLL, List.length_map, Int.toNat_natCast] at *
  · exact hsz hi'
  · rw [length_tks]
  · intro c hc; rw [List.mem_singleton.1 hc]; exact tFct.htk _ _
  · rw [length_tks]; simp only [List.length_singleton]; omega
  · have h1 : (matM p (l.getD i default) b).isSome = true := by assumption
    refine ⟨i + 1, by omega, ?_, by omega⟩
    repeat' first
      | exact trivial | refine Weak.mk ?_ ?_ ?_ ?_ (Or.inr ⟨(by repeat' first | exact trivial | exact Nat.le_of_ble_eq_true rfl | refine And.intro ?_ ?_), (by repeat' first | exact trivial | exact Nat.le_of_ble_eq_true rfl | refine And.intro ?_ ?_)⟩) | refine And.intro ?_ ?_ | with_reducible rfl | exact Nat.le_of_ble_eq_true rfl | refine AV.int_congr ?_ | refine AV.list_congr ?_ | (apply rfl)
    · rw [acc_snoc, mch_yes hi' h1]
    · rw [wrap64 (by omega) (by omega)]; rfl
    · rw [length_tks, mch_yes hi' h1]; exact accFr_snoc _ _
  · have h1 : (matM p (l.getD i default) b).isSome = false := by assumption
    refine ⟨i + 1, by omega, ?_, by omega⟩
    repeat' first
      | exact trivial | refine Weak.mk ?_ ?_ ?_ ?_ (Or.inr ⟨(by repeat' first | exact trivial | exact Nat.le_of_ble_eq_true rfl | refine And.intro ?_ ?_), (by repeat' first | exact trivial | exact Nat.le_of_ble_eq_true rfl | refine And.intro ?_ ?_)⟩) | refine And.intro ?_ ?_ | with_reducible rfl | exact Nat.le_of_ble_eq_true rfl | refine AV.int_congr ?_ | refine AV.list_congr ?_ | (apply rfl)
    · rw [mch_no hi' h1]
    · rw [wrap64 (by omega) (by omega)]; rfl
    · rw [mch_no hi' h1]
  all_goals (exfalso; omega)
theorem sMatchingFacts.own (p : VPattern) (b : List VPair) (l : List Fct) (h1 : tPattern.size p ≤ 1048576) (h2 : tPairs.size b ≤ 1048576) (h : tFcts.size l ≤ 1048576) :
    sMatchingFacts.Own [.agg (oldL (tPattern.q p)), .list none (pairs b), .list none (facts l)] (fctsT (mchF p b l)) := acc_own (sMatchingFacts.ret p b l h1 h2 h)
theorem pMatchingFacts.own (p : VPattern) (b : List VPair) (l : List Fct) (h1 : tPattern.size p ≤ 1048576) (h2 : tPairs.size b ≤ 1048576) (h : tFcts.size l ≤ 1048576) :
    pMatchingFacts.OwnN [.agg (oldL (tPattern.q p)), .list none (pairs b), .list none (facts l)] (fctsT (mchF p b l)) := acc_own (pMatchingFacts.ret p b l h1 h2 h)
end Go.Proofs.YtoindmahilbalaaGreat
namespace Go.Proofs.YtoindmahilbalaaGreat
open Abs
def holdsCF (x : VCond) (b : List VPair) (l : List Fct) : Bool := isCondF x && bindF b && (if x.1 = 1 then decide (0 < ((mchF x.2.1 b l).length : Int)) else if x.1 = 2 then ((mchF x.2.1 b l).length : Int) == 0 else holdsTF x b)
theorem hcond_no {x : VCond} {b : List VPair} {l : List Fct} (h : (!isCondF x || !bindF b) = true) : false = holdsCF x b l := by
  unfold holdsCF; revert h; cases isCondF x <;> cases bindF b <;> simp
theorem hcond_at {x : VCond} {b : List VPair} {l : List Fct} (h : (!isCondF x || !bindF b) = false) : (if x.1 = 1 then decide (0 < ((mchF x.2.1 b l).length : Int)) else if x.1 = 2 then ((mchF x.2.1 b l).length : Int) == 0 else holdsTF x b) = holdsCF x b l := by
  unfold holdsCF; revert h; cases isCondF x <;> cases bindF b <;> simp
theorem sHoldsCond.ret (x : VCond) (b : List VPair) (l : List Fct) (h1 : tCond.size x ≤ 1048576) (h2 : tPairs.size b ≤ 1048576) (h : tFcts.size l ≤ 1048576) :
    sHoldsCond.Ret [.agg (oldL (tCond.q x)), .list none (pairs b), .list none (facts l)] (.val (.bool (holdsCF x b l))) [] := by
  refine sHoldsCond.ofS rfl rfl ?_
  have hp := tCond_pat x
  have hm := sMatchingFacts.own x.2.1 b l (by omega) h2 h
  have hok : okT (fctsT (mchF x.2.1 b l)) = true := ok_list tFct _ _
  repeat' first
    | (conv => whnf
       first | refine Need.mk (fun h => h) ?_ | refine Need.mk rfl ?_ | refine Need.mk (Nat.le_of_ble_eq_true rfl) ?_ | refine Fork.dec (fun _ => ?_) (fun _ => ?_) | refine Fork.mk (fun _ => ?_) (fun _ => ?_) | refine FinVal.keep ?_ | refine Final.mk ?_ rfl | refine ACall.scalA _ _ (sIsCond.ret _ ?_) rfl ?_ | refine AGCall.mkA _ _ (fun hg => sIsBinding.ret _ ?_) rfl ?_ | refine ACall.oldA _ _ (hm) ?_ | refine ACall.scalA _ _ (sHoldsTest.ret _ _ ?_ ?_) rfl ?_)
    | refine AV.bool_congr ?_
  all_goals first
    | assumption
    | exact hcond_no (by assumption)
    | (rw [length_oldLL, List.length_map, ← hcond_at (by assumption), if_pos (by assumption)])
    | (rw [length_oldLL, List.length_map, ← hcond_at (by assumption), if_neg (by assumption), if_pos (by assumption)])
    | (rw [← hcond_at (by assumption), if_neg (by assumption), if_neg (by assumption)])
theorem pHoldsCond.ret (x : VCond) (b : List VPair) (l : List Fct) (h1 : tCond.size x ≤ 1048576) (h2 : tPairs.size b ≤ 1048576) (h : tFcts.size l ≤ 1048576) :
    pHoldsCond.RetN [.agg (oldL (tCond.q x)), .list none (pairs b), .list none (facts l)] (.val (.bool (holdsCF x b l))) [] := by
  refine pHoldsCond.ofS rfl rfl ?_
  have hp := tCond_pat x
  have hm := pMatchingFacts.own x.2.1 b l (by omega) h2 h
  have hok : okT (fctsT (mchF x.2.1 b l)) = true := ok_list tFct _ _
  repeat' first
    | (conv => whnf
       first | refine Need.mk (fun h => h) ?_ | refine Need.mk rfl ?_ | refine Need.mk (Nat.le_of_ble_eq_true rfl) ?_ | refine Fork.dec (fun _ => ?_) (fun _ => ?_) | refine Fork.mk (fun _ => ?_) (fun _ => ?_) | refine FinVal.keep ?_ | refine Final.mk ?_ rfl | refine ACall.scalA _ _ (Ret.weak (pIsCond.ret _ ?_)) rfl ?_ | refine AGCall.mkA _ _ (fun hg => Ret.weak (pIsBinding.ret _ ?_)) rfl ?_ | refine ACall.oldA _ _ (hm) ?_ | refine ACall.scalA _ _ (Ret.weak (pHoldsTest.ret _ _ ?_ ?_)) rfl ?_)
    | refine AV.bool_congr ?_
  all_goals first
    | assumption
    | exact hcond_no (by assumption)
    | (rw [length_oldLL, List.length_map, ← hcond_at (by assumption), if_pos (by assumption)])
    | (rw [length_oldLL, List.length_map, ← hcond_at (by assumption), if_neg (by assumption), if_pos (by assumption)])
    | (rw [← hcond_at (by assumption), if_neg (by assumption), if_neg (by assumption)])
end Go.Proofs.YtoindmahilbalaaGreat
namespace Go.Proofs.YtoindmahilbalaaGreat
open Abs
theorem tPair_canon : Canon tPair := Canon.pair Canon.str Canon.str
theorem tStrs_canon : Canon tStrs := Canon.plain _ _ _ Canon.str
theorem tFct_canon : Canon tFct := Canon.pair Canon.str tStrs_canon
theorem tFcts_canon : Canon tFcts := Canon.list _ tFct_canon
theorem tPairs_canon : Canon tPairs := Canon.plain _ _ _ tPair_canon
theorem tToken_canon : Canon tToken := Canon.pair tFcts_canon tPairs_canon
theorem tTokens_canon : Canon tTokens := Canon.list _ tToken_canon
def nextF (l : List Fct) (x : VCond) (t : VToken) : List VToken :=
  if x.1 = 1 then l.filterMap fun f => (matM x.2.1 f t.2).map fun b => (t.1 ++ [f], b) else if holdsCF x t.2 l then [t] else []
def stepF (l : List Fct) (ts : List VToken) (x : VCond) : List VToken := ts.flatMap (nextF l x)
@[irreducible] def toksF (l : List Fct) (cs : List VCond) : List VToken := cs.foldl (stepF l) [([], [])]
theorem toksF_nil (l : List Fct) : toksF l [] = [([], [])] := by unfold toksF; rfl
theorem toksF_snoc (l : List Fct) (cs : List VCond) (x : VCond) : toksF l (cs ++ [x]) = stepF l (toksF l cs) x := by unfold toksF; rw [List.foldl_append]; rfl
theorem toksF_succ (l : List Fct) {cs : List VCond} {i : Nat} (hi : i < cs.length) : toksF l (cs.take (i + 1)) = stepF l (toksF l (cs.take i)) (cs.getD i default) := by
  rw [take_succ' default hi, toksF_snoc]
theorem stepF_take {l : List Fct} {x : VCond} {ts : List VToken} {i : Nat} (hi : i < ts.length) : stepF l (ts.take (i + 1)) x = stepF l (ts.take i) x ++ nextF l x (ts.getD i default) := by
  rw [take_succ' default hi, stepF, List.flatMap_append]; simp [stepF]
/-- what is known of a token: some of the facts, no more than n, and a binding -/
structure GoodT (l : List Fct) (n : Nat) (t : VToken) : Prop where
  le : t.1.length ≤ n
  mem : ∀ f ∈ t.1, f ∈ l
  bind : bindF t.2 = true
theorem matS_bind : ∀ (l : List (Str × Str)) {e e' : List VPair}, bindF e = true → matS e l = some e' → bindF e' = true
  | [], e, e', h, hm => by rw [matS] at hm; cases hm; exact h
  | q :: l, e, e', h, hm => by
    rw [matS] at hm
    split at hm
    · split at hm
      · exact matS_bind l h hm
      · cases hm
    · cases he : extF e q.1 q.2 with
      | none => rw [he] at hm; cases hm
      | some e2 => rw [he] at hm; exact matS_bind l (extF_bind he) hm
theorem matM_bind {p : VPattern} {f : Fct} {b e : List VPair} (h : matM p f b = some e) : bindF e = true := by
  unfold matM at h
  split at h
  · rename_i hc
    simp only [Bool.and_eq_true] at hc
    exact matS_bind _ hc.1.1.2 h
  · cases h
theorem bindF_nil : bindF [] = true := (bindF_iff []).2 ⟨Nat.zero_le _, by simp, List.Pairwise.nil⟩
theorem nextF_good {l : List Fct} {x : VCond} {n : Nat} {t t' : VToken} (h : GoodT l n t) (ht : t' ∈ nextF l x t) : GoodT l (n + 1) t' := by
  unfold nextF at ht
  split at ht
  · obtain ⟨f, hf, he⟩ := List.mem_filterMap.1 ht
    obtain ⟨b, hb, rfl⟩ := Option.map_eq_some_iff.1 he
    refine ⟨by have := h.le; simp only [List.length_append, List.length_singleton]; omega, fun g hg => ?_, matM_bind hb⟩
    rcases List.mem_append.1 hg with hg | hg
    · exact h.mem g hg
    · rw [List.mem_singleton.1 hg]; exact hf
  · split at ht
    · rw [List.mem_singleton.1 ht]; exact ⟨by have := h.le; omega, h.mem, h.bind⟩
    · cases ht
theorem stepF_good {l : List Fct} {x : VCond} {n : Nat} {ts : List VToken} (h : ∀ t ∈ ts, GoodT l n t) : ∀ t ∈ stepF l ts x, GoodT l (n + 1) t := fun t ht => by
  obtain ⟨u, hu, ht⟩ := List.mem_flatMap.1 ht
  exact nextF_good (h u hu) ht
theorem toksF_good (l : List Fct) (cs : List VCond) : ∀ (k : Nat), k ≤ cs.length → ∀ t ∈ toksF l (cs.take k), GoodT l k t
  | 0, _, t, ht => by
    rw [List.take_zero, toksF_nil] at ht
    rw [List.mem_singleton.1 ht]; exact ⟨Nat.le_refl _, by simp, bindF_nil⟩
  | k + 1, hk, t, ht => by
    rw [toksF_succ l (by omega)] at ht
    exact stepF_good (toksF_good l cs k (by omega)) t ht
theorem nextF_len {l : List Fct} (hl : l.length ≤ 24) (x : VCond) (t : VToken) : (nextF l x t).length ≤ 24 := by
  unfold nextF
  split
  · exact Nat.le_trans (List.length_filterMap_le _ _) hl
  · split <;> simp
theorem stepF_len {l : List Fct} (hl : l.length ≤ 24) (x : VCond) : ∀ ts : List VToken, (stepF l ts x).length ≤ 24 * ts.length
  | [] => Nat.le_refl _
  | t :: ts => by
    have h1 := nextF_len hl x t
    have h2 := stepF_len hl x ts
    rw [stepF, List.flatMap_cons, List.length_append, List.length_cons]
    rw [stepF] at h2
    omega
theorem toksF_len {l : List Fct} (hl : l.length ≤ 24) (cs : List VCond) : ∀ (k : Nat), k ≤ cs.length → (toksF l (cs.take k)).length ≤ 24 ^ k
  | 0, _ => by rw [List.take_zero, toksF_nil]; exact Nat.le_refl _
  | k + 1, hk => by
    rw [toksF_succ l (by omega)]
    have h1 := stepF_len hl (cs.getD k default) (toksF l (cs.take k))
    have h2 := toksF_len hl cs k (by omega)
    rw [Nat.pow_succ]; omega
theorem pow24 {k : Nat} (h : k ≤ 4) : 24 ^ k ≤ 331776 := Nat.le_trans (Nat.pow_le_pow_right (by decide) h) (by decide)
theorem toksF_len4 {l : List Fct} (hl : l.length ≤ 24) {cs : List VCond} (hc : cs.length ≤ 4) (k : Nat) : (toksF l (cs.take k)).length ≤ 331776 := by
  rcases Nat.le_total k cs.length with h | h
  · exact Nat.le_trans (toksF_len hl cs k h) (pow24 (by omega))
  · rw [List.take_of_length_le h]
    have := toksF_len hl cs cs.length (Nat.le_refl _)
    rw [List.take_length] at this
    exact Nat.le_trans this (pow24 hc)
theorem stepF_le {l : List Fct} (hl : l.length ≤ 24) {x : VCond} (ts : List VToken) (i : Nat) : (stepF l (ts.take i) x).length ≤ 24 * ts.length := by
  have h1 := stepF_len hl x (ts.take i)
  have h2 : (ts.take i).length ≤ ts.length := by rw [List.length_take]; omega
  omega
theorem atomF_le {s : Str} (h : atomF s = true) : s.length ≤ 8 := by
  simp only [atomF, Bool.and_eq_true, decide_eq_true_eq] at h; omega
theorem strs_le {l : List Str} (h : l.all atomF = true) : listSize Ty.str l ≤ 8 * l.length := by
  induction l with
  | nil => exact Nat.le_refl _
  | cons s l ih =>
    rw [List.all_cons, Bool.and_eq_true] at h
    have h1 := atomF_le h.1
    have h2 := ih h.2
    rw [List.length_cons]
    show s.length + listSize Ty.str l ≤ _
    omega
theorem fact_le {f : Fct} (h : isFactF f = true) : tFct.size f ≤ 35 := by
  unfold isFactF nameF at h
  simp only [Bool.and_eq_true, decide_eq_true_eq] at h
  have h1 := atomF_le h.1.1.1
  have h2 := strs_le h.2
  rw [tFct_size, tStrs_size]
  omega
theorem areF_fact {l : List Fct} (h : areF l = true) : ∀ f ∈ l, isFactF f = true := fun f hf => by
  obtain ⟨i, hi⟩ := List.getElem?_of_mem hf
  have hl := getElem?_lt hi
  have hg : l.getD i default = f := by rw [List.getD_eq_getElem?_getD, hi]; rfl
  cases hb : badAt l i with
  | true => rw [areF_no hl hb] at h; cases h
  | false => unfold badAt at hb; rw [Bool.or_eq_false_iff, hg] at hb; simpa using hb.1
theorem areF_len {l : List Fct} (h : areF l = true) : l.length ≤ 24 := by
  rcases Nat.lt_or_ge 24 l.length with h1 | h1
  · rw [areF_long (by omega)] at h; cases h
  · exact h1
theorem goodT_size {l : List Fct} {n : Nat} {t : VToken} (hl : ∀ f ∈ l, isFactF f = true) (h : GoodT l n t) (hn : n ≤ 5) : tFcts.size t.1 ≤ 180 ∧ tPairs.size t.2 ≤ 108 := by
  have h1 : ∀ m : List Fct, (∀ f ∈ m, isFactF f = true) → listSize tFct m ≤ 35 * m.length := by
    intro m
    induction m with
    | nil => exact fun _ => Nat.le_refl _
    | cons f m ih =>
      intro hm
      have h2 := fact_le (hm f List.mem_cons_self)
      have h3 := ih fun g hg => hm g (List.mem_cons_of_mem _ hg)
      rw [List.length_cons]
      show tFct.size f + listSize tFct m ≤ _
      omega
  have h2 := h1 t.1 fun f hf => hl f (h.mem f hf)
  have h3 := h.le
  obtain ⟨b1, b2, _⟩ := (bindF_iff _).1 h.bind
  have h4 := pairs_size b2
  rw [tFcts_size, tPairs_sz]
  omega
end Go.Proofs.YtoindmahilbalaaGreat
namespace Go.Proofs.YtoindmahilbalaaGreat
open Abs
theorem sCopies.ret (l : List Fct) (h : tFcts.size l ≤ 1048576) : sCopies.Ret [.list none (facts l)] (.list (some 0) (tks tFct l 1)) (accFr l) := by
  refine sCopies.of rfl ?_
  rw [tFcts_size] at h
  repeat' first
    | (conv => whnf
       first | refine Need.mk rfl ?_)
  refine ALoop.mk Nat (fun i => ⟨[(0, .list none (facts l)), (3, .list (some 0) (tks tFct (l.take i) 1)), (4, .val (.int .i64 i))], [], accFr (l.take i)⟩) (fun i => i ≤ l.length) (fun i => l.length - i) ⟨0, Nat.zero_le _, ?_⟩ (fun i hi => ?_)
  · repeat' first
      | exact trivial | refine Weak.mk ?_ ?_ ?_ ?_ (Or.inl (Nat.le_of_ble_eq_true rfl)) | refine And.intro ?_ ?_ | with_reducible rfl | exact Nat.le_of_ble_eq_true rfl | refine fr1 ?_ | refine AV.int_congr ?_ | refine AV.list_congr ?_ | (apply rfl)
  have hlen : (l.take i).length ≤ l.length := by rw [List.length_take]; omega
  repeat' first
    | (conv => whnf
       first | refine Need.mk rfl ?_ | refine Need.mk (Nat.le_of_ble_eq_true rfl) ?_ | refine Need.mk ?_ ?_ | refine Ix.mapF (fun _ => rfl) ?_ | refine Fork.dec (fun _ => ?_) (fun _ => ?_) | refine Round.mk ?_ | refine Lit.read rfl ?_ | refine Final.mk ?_ ?_ | refine ACall.mkFct _ _ (sCopy.ret _ ?_) (by repeat' first | exact SeesL.nil | refine SeesL.cons ?_ ?_ | exact SeesB.of0 (Sees0.val _) | exact SeesB.of0 (Sees0.str _) | exact SeesB.of0 (Sees0.olds _ _) | exact SeesB.of0 (Sees0.old _) | exact SeesB.of0 (Sees0.oldagg _) | exact SeesB.of0 Sees0.nil | exact Sees0.val _ | exact Sees0.str _ | exact Sees0.olds _ _ | exact Sees0.old _ | exact Sees0.oldagg _ | exact Sees0.nil | exact SeesB.of0 (Sees0.any _) | assumption | exact sees_gv _ _ _ (by assumption) (by first | assumption | exact BoxIn.last _ _ | exact BoxIn.more (BoxIn.last _ _) _) | refine SeesB.agg ?_ | refine Sees0.agg ?_ | exact SeesB.of0 (Sees0.clo SeesL.nil SeesL.nil) | exact Sees0.clo SeesL.nil SeesL.nil | exact SeesB.of0 (Sees0.list rfl) | exact Sees0.list rfl) ?_)
    | refine AV.list_congr ?_
  all_goals try simp only [length_rows, length_strs, length_oldLL, List.length_map, Int.toNat_natCast] at *
  · have := fct_le (l := l) (i := i) (by omega); omega
  · rw [length_tks]
  · intro c hc; rw [List.mem_singleton.1 hc]; exact tFct.htk _ _
  · rw [length_tks]; simp; omega
  · refine ⟨i + 1, by omega, ?_, by omega⟩
    repeat' first
      | exact trivial | refine Weak.mk ?_ ?_ ?_ ?_ (Or.inl (Nat.le_of_ble_eq_true rfl)) | refine And.intro ?_ ?_ | with_reducible rfl | exact Nat.le_of_ble_eq_true rfl | refine AV.int_congr ?_ | refine AV.list_congr ?_ | (apply rfl)
    · rw [acc_snoc, take_succ' default (by omega)]
    · rw [wrap64 (by omega) (by omega)]; rfl
    · show (accFr (l.take i) ++ tFct.fr (l.getD i default)).set 0 (_, _, (tks tFct (l.take i) 1).length + 1) = accFr (l.take (i + 1))
      rw [length_tks, take_succ' default (by omega)]; exact accFr_snoc _ _
  · rw [List.take_of_length_le (by omega)]
  · rw [List.take_of_length_le (by omega)]
theorem sCopies.own (l : List Fct) (h : tFcts.size l ≤ 1048576) : sCopies.Own [.list none (facts l)] (fctsT l) := acc_own (sCopies.ret l h)
end Go.Proofs.YtoindmahilbalaaGreat
namespace Go.Proofs
open Go.RowKit Go.Shelf
def Tryz.growS_ren : Go.Shelf.Ren := ⟨fun | 4 => 202 | n => n, fun | 22 => 77 | 25 => 9 | 3 => 3 | 4 => 4 | 9 => 9 | 20 => 20 | 0 => 0 | n => n, fun | n => n⟩
theorem Tryz.growS : Go.Proofs.Lays8.n4 Tryz.prog Tryz.growS_ren := {
  mixed := by kernel_rfl
  f4 := ⟨Tryz.f202.name, by decide, Tryz.func202.trans (congrArg some (by kernel_rfl))⟩
  t0 := Tryz.underlying0
  a0 := Tryz.isAgg0
  z0 := Tryz.sizeOf0
  v0 := Tryz.zeroValue0
  t3 := Tryz.underlying3
  a3 := Tryz.isAgg3
  z3 := Tryz.sizeOf3
  v3 := Tryz.zeroValue3
  t4 := Tryz.underlying4
  a4 := Tryz.isAgg4
  z4 := Tryz.sizeOf4
  v4 := Tryz.zeroValue4
  t9 := Tryz.underlying9
  a9 := Tryz.isAgg9
  z9 := Tryz.sizeOf9
  v9 := Tryz.zeroValue9
  t20 := Tryz.underlying20
  a20 := Tryz.isAgg20
  z20 := Tryz.sizeOf20
  v20 := Tryz.zeroValue20
  t22 := Tryz.underlying77
  a22 := Tryz.isAgg77
  z22 := Tryz.sizeOf77
  v22 := Tryz.zeroValue77 }
def Tryz.growC_ren : Go.Shelf.Ren := ⟨fun | 4 => 199 | n => n, fun | 22 => 31 | 25 => 116 | 3 => 3 | 4 => 4 | 9 => 9 | 20 => 20 | 0 => 0 | n => n, fun | n => n⟩
theorem Tryz.growC : Go.Proofs.Lays8.n4 Tryz.prog Tryz.growC_ren := {
  mixed := by kernel_rfl
  f4 := ⟨Tryz.f199.name, by decide, Tryz.func199.trans (congrArg some (by kernel_rfl))⟩
  t0 := Tryz.underlying0
  a0 := Tryz.isAgg0
  z0 := Tryz.sizeOf0
  v0 := Tryz.zeroValue0
  t3 := Tryz.underlying3
  a3 := Tryz.isAgg3
  z3 := Tryz.sizeOf3
  v3 := Tryz.zeroValue3
  t4 := Tryz.underlying4
  a4 := Tryz.isAgg4
  z4 := Tryz.sizeOf4
  v4 := Tryz.zeroValue4
  t9 := Tryz.underlying9
  a9 := Tryz.isAgg9
  z9 := Tryz.sizeOf9
  v9 := Tryz.zeroValue9
  t20 := Tryz.underlying20
  a20 := Tryz.isAgg20
  z20 := Tryz.sizeOf20
  v20 := Tryz.zeroValue20
  t22 := Tryz.underlying31
  a22 := Tryz.isAgg31
  z22 := Tryz.sizeOf31
  v22 := Tryz.zeroValue31 }
end Go.Proofs
namespace Go.Proofs.YtoindmahilbalaaGreat
open Abs Go.RowKit Go.Shelf
theorem slGrow.ret (n : Nat) (hn : n ≤ 4194304) : slGrow.Ret [.val (.slice none 0 0), .val (.int .i64 n)] (.list (some 0) []) [(9, 1, 0)] := by
  rw [slGrow.Ret, Ret_eq]
  refine ⟨by kernel_rfl, fun w F vs hout hargs => ?_⟩
  obtain ⟨v0, v1, rfl⟩ : ∃ v0 v1, vs = #[v0, v1] := by
    have := hargs.1
    match vs, this with
    | ⟨[a, b]⟩, _ => exact ⟨a, b, rfl⟩
  obtain ⟨h0, h1⟩ := Both.cons.1 hargs
  obtain ⟨h1, _⟩ := Both.cons.1 h1
  cases h0
  cases h1
  rcases Nat.eq_zero_or_pos n with rfl | hpos
  · refine (Any8.slices_Grow_room Tryz.growS none 0 0 0 w (by omega) (by omega) (by omega) (by omega)).mono ?_
    rintro e w' ⟨rfl, rfl⟩
    refine ⟨_, F, [none], [], rfl, Bel.refl _ _, fun _ _ => rfl, hout, rfl, fun k b h => ?_, fun k l b h => ?_, .list _ [] none 0 1 0 0 (fun _ _ => undef) (Nat.le_refl _) (fun h => absurd rfl h) (by simp) (fun h => absurd rfl h) (by simp) (by simp) (fun k hk => ?_)⟩
    · cases k <;> simp at h
    · cases k <;> simp at h
    · cases hk
      exact ⟨_, 1, 0, rfl, Nat.le_refl _, fun _ => ⟨rfl, ⟨[], World.ownsRow_nil _ _ _ _⟩, rfl, fun b h => by cases h⟩⟩
  · obtain ⟨el, ti, z, hu, hi, hz, hzs, hps, _, hel, hcz⟩ := goodElem_inv (P := Tryz.prog) (t := 77) (by kernel_rfl)
    have he : el = 9 := hel.symm.trans (by kernel_rfl)
    subst he
    have hsz : ti.size = 1 := hcz.symm.trans (by kernel_rfl)
    have hby : ti.bytes = 16 := by
      have h : bytesOf Tryz.prog 9 = ti.bytes := by unfold bytesOf; rw [hi]
      exact h.symm.trans (by kernel_rfl)
    have hzz : z.cells.size = 1 := hzs.trans hsz
    refine (Any8.slices_Grow_grow Tryz.growS ti z hi hz (by omega) none 0 0 n [] w (by omega) (by omega) (by rw [hby]; omega) (by omega) (by simp) (fun _ => rfl) (fun a h => by cases h)).mono ?_
    rintro e w' ⟨rfl, rfl⟩
    have hge := grownCap_ge w (0 + n) 0 9
    have hle := grownCap_le_maxLen w (0 + n) 0 9 (by unfold maxLen; omega)
    have hG : grownCap w (0 + n) 0 (Tryz.growS_ren.t 25) = grownCap w (0 + n) 0 9 := rfl
    rw [hG]
    generalize grownCap w (0 + n) 0 9 = G at hge hle
    refine ⟨_, F, [some w.heap.size], [], rfl, ((Bel.refl _ w).drew).alloc (Nat.le_refl _) _, fun _ _ => rfl, fun b hb => hout b ?_, rfl, fun k b h => ?_, fun k l b h1 h2 => ?_, .list _ [] (some ⟨w.heap.size, 0, none⟩) G 1 w.heap.size 0 (fun _ _ => undef) (Nat.zero_le _) (fun h => absurd rfl h) (by simp) (fun h => absurd rfl h) (by simp) (by simp) (fun k hk => ?_)⟩
    · have : w.heap.size + 1 ≤ b := by simpa using hb
      omega
    · cases k with
      | zero => simp at h; subst h; exact ⟨Nat.le_refl _, by simp⟩
      | succ k => simp at h
    · cases k <;> cases l <;> simp at h1 h2
      rfl
    · cases hk
      refine ⟨_, 1, 0, rfl, Nat.le_refl _, fun _ => ⟨rfl, ⟨[], rfl, Or.inr ⟨w.heap.size, G, _, rfl, Nat.le_refl _, heap_alloc_new w.drew _, Nat.zero_le _, hle, ?_, by simp⟩⟩, rfl, fun b h => ?_⟩⟩
      · simp [Builtin.zeroCells, hzz]; omega
      · cases h; rw [hout _ (Nat.le_refl _)]; rfl
def sumN (a b : List Str) (i : Nat) : Nat := if i = 0 then 0 else if i = 1 then a.length else a.length + b.length
def catN (a b : List Str) (i : Nat) : List Str := if i = 0 then [] else if i = 1 then a else a ++ b
theorem slConcat2.ret (a b : List Str) (ha : a.length ≤ 1048576) (hb : b.length ≤ 1048576) : slConcat.Ret [.list none [[.list none (strs a)], [.list none (strs b)]]] (.list (some 0) (strs (a ++ b))) [(9, 1, (a ++ b).length)] := by
  refine slConcat.of rfl ?_
  have e1 : IntKind.i64.wrap ((0 : Int) + (strs a).length) = a.length := by rw [length_strs, wrap64 (by omega) (by omega)]; omega
  have e2 : IntKind.i64.wrap ((a.length : Int) + (strs b).length) = ((a.length + b.length : Nat) : Int) := by rw [length_strs, wrap64 (by omega) (by omega)]; omega
  skip
  refine ALoop.mk Nat (fun i => ⟨[(0, .list none [[.list none (strs a)], [.list none (strs b)]]), (3, .val (.int .i64 (sumN a b i))), (9, .list none [[.list none (strs a)], [.list none (strs b)]]), (10, .val (.int .i64 2)), (11, .val (.int .i64 i))], [], []⟩) (fun i => i ≤ 2) (fun i => 2 - i) ⟨0, by omega, ?_⟩ (fun i hi => ?_)
  · repeat' first
      | exact trivial | refine Weak.mk ?_ ?_ ?_ ?_ (Or.inl (Nat.le_of_ble_eq_true rfl)) | refine And.intro ?_ ?_ | with_reducible rfl | exact Nat.le_of_ble_eq_true rfl | refine AV.int_congr ?_ | refine AV.list_congr ?_ | (apply rfl)
  have hc : i = 0 ∨ i = 1 ∨ i = 2 := by omega
  rcases hc with rfl | rfl | rfl
  · have hix : (0 : Int) ≤ (0 : Nat) ∧ [[AV.list none (strs a)], [AV.list none (strs b)]][((0 : Nat) : Int).toNat]? = some [AV.list none (strs a)] ∧ 1 = 1 := ⟨by omega, rfl, rfl⟩
    repeat' first
      | (conv => whnf
         first | refine Need.mk rfl ?_ | refine Ix.mk _ (fun _ => hix) ?_ | refine Fork.decYes (by omega) ?_ | refine Fork.dec (fun _ => ?_) (fun _ => ?_) | refine Round.mk ?_)
    · rename_i h
      have h : IntKind.i64.wrap ((0 : Int) + (strs a).length) < 0 := h
      rw [e1] at h; omega
    · refine ⟨1, by omega, ?_, by omega⟩
      repeat' first
        | exact trivial | refine Weak.mk ?_ ?_ ?_ ?_ (Or.inl (Nat.le_of_ble_eq_true rfl)) | refine And.intro ?_ ?_ | with_reducible rfl | exact Nat.le_of_ble_eq_true rfl | refine AV.int_congr ?_ | refine AV.list_congr ?_ | (apply rfl)
      exact e1
  · have hix : (0 : Int) ≤ (1 : Nat) ∧ [[AV.list none (strs a)], [AV.list none (strs b)]][((1 : Nat) : Int).toNat]? = some [AV.list none (strs b)] ∧ 1 = 1 := ⟨by omega, rfl, rfl⟩
    repeat' first
      | (conv => whnf
         first | refine Need.mk rfl ?_ | refine Ix.mk _ (fun _ => hix) ?_ | refine Fork.decYes (by omega) ?_ | refine Fork.dec (fun _ => ?_) (fun _ => ?_) | refine Round.mk ?_)
    · rename_i h
      have h : IntKind.i64.wrap ((a.length : Int) + (strs b).length) < 0 := h
      rw [e2] at h; omega
    · refine ⟨2, by omega, ?_, by omega⟩
      repeat' first
        | exact trivial | refine Weak.mk ?_ ?_ ?_ ?_ (Or.inl (Nat.le_of_ble_eq_true rfl)) | refine And.intro ?_ ?_ | with_reducible rfl | exact Nat.le_of_ble_eq_true rfl | refine AV.int_congr ?_ | refine AV.list_congr ?_ | (apply rfl)
      exact e2
  have hg : slGrow.Ret [.val (.slice none 0 0), .val (.int .i64 (sumN a b 2))] (.list (some 0) []) [(9, 1, 0)] := slGrow.ret (a.length + b.length) (by omega)
  repeat' first
    | (conv => whnf
       first | refine Need.mk rfl ?_ | refine Fork.decNo (by omega) ?_ | refine ACall.mkR _ _ _ (hg) ?_)
  refine ALoop.mk Nat (fun i => ⟨[(0, .list none [[.list none (strs a)], [.list none (strs b)]]), (6, .list (some 0) (strs (catN a b i))), (25, .list none [[.list none (strs a)], [.list none (strs b)]]), (26, .val (.int .i64 2)), (27, .val (.int .i64 i))], [], [(9, 1, (catN a b i).length)]⟩) (fun i => i ≤ 2) (fun i => 2 - i) ⟨0, by omega, ?_⟩ (fun i hi => ?_)
  · repeat' first
      | exact trivial | refine Weak.mk ?_ ?_ ?_ ?_ (Or.inl (Nat.le_of_ble_eq_true rfl)) | refine And.intro ?_ ?_ | with_reducible rfl | exact Nat.le_of_ble_eq_true rfl | refine fr1 ?_ | refine AV.int_congr ?_ | refine AV.list_congr ?_ | (apply rfl)
  have hc : i = 0 ∨ i = 1 ∨ i = 2 := by omega
  rcases hc with rfl | rfl | rfl
  · have hix : (0 : Int) ≤ (0 : Nat) ∧ [[AV.list none (strs a)], [AV.list none (strs b)]][((0 : Nat) : Int).toNat]? = some [AV.list none (strs a)] ∧ 1 = 1 := ⟨by omega, rfl, rfl⟩
    repeat' first
      | (conv => whnf
         first | refine Need.mk rfl ?_ | refine Need.mk ?_ ?_ | refine Ix.mk _ (fun _ => hix) ?_ | refine Fork.decYes (by omega) ?_ | refine Round.mk ?_)
    · exact strs_sz a
    · rw [length_strs, length_strs]; simp [catN]; omega
    · refine ⟨1, by omega, ?_, by omega⟩
      repeat' first
        | exact trivial | refine Weak.mk ?_ ?_ ?_ ?_ (Or.inl (Nat.le_of_ble_eq_true rfl)) | refine And.intro ?_ ?_ | with_reducible rfl | exact Nat.le_of_ble_eq_true rfl | refine fr1 ?_ | refine AV.int_congr ?_ | refine AV.list_congr ?_ | (apply rfl)
      show (strs []).length + (strs a).length = a.length
      simp
  · have hix : (0 : Int) ≤ (1 : Nat) ∧ [[AV.list none (strs a)], [AV.list none (strs b)]][((1 : Nat) : Int).toNat]? = some [AV.list none (strs b)] ∧ 1 = 1 := ⟨by omega, rfl, rfl⟩
    repeat' first
      | (conv => whnf
         first | refine Need.mk rfl ?_ | refine Need.mk ?_ ?_ | refine Ix.mk _ (fun _ => hix) ?_ | refine Fork.decYes (by omega) ?_ | refine Round.mk ?_)
    · simp
    · exact strs_sz b
    · rw [length_strs, length_strs]; simp [catN]; omega
    · refine ⟨2, by omega, ?_, by omega⟩
      repeat' first
        | exact trivial | refine Weak.mk ?_ ?_ ?_ ?_ (Or.inl (Nat.le_of_ble_eq_true rfl)) | refine And.intro ?_ ?_ | with_reducible rfl | exact Nat.le_of_ble_eq_true rfl | refine fr1 ?_ | refine AV.int_congr ?_ | refine AV.list_congr ?_ | (apply rfl)
      · exact (strs_append a b).symm
      · show (strs a).length + (strs b).length = (a ++ b).length
        simp
  · repeat' first
      | (conv => whnf
         first | refine Need.mk rfl ?_ | refine Fork.decNo (by omega) ?_ | refine Final.mk rfl rfl)
theorem vs_app (l m : List Str) : vs (l ++ m) = vs l ++ vs m := by simp [vs]
def cvF (x : VCond) : List Str := x.2.1.2 ++ [x.2.2.1, x.2.2.2]
theorem pCondVars.ret (x : VCond) (h : tCond.size x ≤ 1048576) : pCondVars.Ret [.agg (oldL (tCond.q x))] (.list (some 4) (strs (insAll blt (vs (cvF x))))) [(9, 1, 2), (77, 1, 2), (9, 1, (cvF x).length), (9, 1, (vs (cvF x)).length), (9, 1, (insAll blt (vs (cvF x))).length)] := by
  refine pCondVars.of rfl ?_
  have hz : tCond.size x = x.2.1.1.length + (x.2.1.2.length + listSize Ty.str x.2.1.2) + (x.2.2.1.length + x.2.2.2.length) := tCond_sz x
  have hc : slConcat.Ret [.list none [[.list none (strs x.2.1.2)], [.list none [[.str x.2.2.1], [.str x.2.2.2]]]]] (.list (some 0) (strs (cvF x))) [(9, 1, (cvF x).length)] := slConcat2.ret x.2.1.2 [x.2.2.1, x.2.2.2] (by omega) (by simp)
  have hv := pvarsAmong.ret (cvF x) (by simp [cvF]; omega) (by
    have : listSize Ty.str (cvF x) = listSize Ty.str x.2.1.2 + (x.2.2.1.length + (x.2.2.2.length + 0)) := by
      unfold cvF
      induction x.2.1.2 with
      | nil => simp [listSize, Ty.str]
      | cons y l ih =>
        have e1 : listSize Ty.str ((y :: l) ++ [x.2.2.1, x.2.2.2]) = y.length + listSize Ty.str (l ++ [x.2.2.1, x.2.2.2]) := rfl
        have e2 : listSize Ty.str (y :: l) = y.length + listSize Ty.str l := rfl
        rw [e1, e2, ih]; omega
    omega)
  repeat' first
    | (conv => whnf
       first | refine Need.mk rfl ?_)
  conv => whnf
  refine ACall.mkStrs _ _ hc (.cons (Sees0.list ?_) .nil) ?_
  · show [[AV.list none (mapTLL noTok (oldLL (x.2.1.2.map Ty.str.q)))], [AV.list none [[.str x.2.2.1], [.str x.2.2.2]]]] = _
    rw [mapTLL_old]; rfl
  repeat' first
    | (conv => whnf
       first | refine Final.mk rfl rfl | refine ACall.mkLA _ _ _ _ (hv) ?_)
theorem own_rowF {F : Fr} {l l' : List Str} {k : Nat} (hk : F[k]? = some (9, 1, l.length)) (e : l = l') : ∃ ts, OwnA F [strT l'] [.list (some k) (strs l)] ts ∧ ts.Nodup := by
  subst e
  exact ⟨[k], .l _ _ _ k (strs l) (by simpa using hk) (by simp) (fun e he => by obtain ⟨s, _, rfl⟩ := List.mem_map.1 he; rfl) (strs_sz _) (own_strs F l) .nil, by simp⟩
theorem var_pos {s : Str} (h : varF s = true) : 1 ≤ s.length := by
  unfold varF at h
  simp only [Bool.and_eq_true, decide_eq_true_eq] at h
  omega
theorem cv_eq (x : VCond) : vs (cvF x) = vs x.2.1.2 ++ (if varF x.2.2.1 then [x.2.2.1] else []) ++ (if varF x.2.2.2 then [x.2.2.2] else []) := by
  rw [cvF, vs_app, List.append_assoc]
  congr 1
  unfold vs
  rw [List.filter_cons, List.filter_cons]
  split <;> split <;> rfl
theorem pCondVars.own (x : VCond) (h : tCond.size x ≤ 1048576) : pCondVars.Own [.agg (oldL (tCond.q x))] (strT (insAll blt (vs (cvF x)))) := own_row rfl (pCondVars.ret x h)
theorem sCondVars.own (x : VCond) (h : tCond.size x ≤ 1048576) : sCondVars.Own [.agg (oldL (tCond.q x))] (strT (insAll blt (vs (cvF x)))) := by
  refine Own.of_irP (code := sCondVars.code) (rs := sCondVars.res) (K := sCondVars.keep) Tryz.func84 rfl (by kernel_rfl) (Nat.le_of_ble_eq_true rfl) (by kernel_rfl) (by kernel_rfl) ?_
  have hp := tCond_pat x
  have hz : tCond.size x = x.2.1.1.length + (x.2.1.2.length + listSize Ty.str x.2.1.2) + (x.2.2.1.length + x.2.2.2.length) := tCond_sz x
  have hil := insAll_le (vs x.2.1.2)
  have hvl : (vs x.2.1.2).length ≤ x.2.1.2.length := List.length_filter_le varF x.2.1.2
  have hin := insAll_le (vs x.2.1.2 ++ [x.2.2.1])
  rw [ins_snoc, List.length_append, List.length_singleton] at hin
  have hce := cv_eq x
  have hfl := frS_len (vs x.2.1.2) (vs x.2.1.2).length
  have hfg : (frS (vs x.2.1.2) (vs x.2.1.2).length)[(vs x.2.1.2).length]? = some (9, 1, (insAll blt (vs x.2.1.2)).length) := by simp [frS, accS]
  have hvo := sVarsOf.ret x.2.1 (by omega)
  generalize frS (vs x.2.1.2) (vs x.2.1.2).length = fs at hfl hfg hvo
  repeat' first
    | (conv => whnf
       first | refine Need.mk (Nat.le_of_ble_eq_true rfl) ?_ | refine Fork.mk (fun _ => ?_) (fun _ => ?_) | refine ACall.scalA _ _ (sIsVar.ret _ ?_) rfl ?_ | refine ACall.mkLA _ _ _ _ (hvo) ?_ | refine ACall.mkStrs _ _ (sPut.ret _ _ ?_) (by repeat' first | exact SeesL.nil | refine SeesL.cons ?_ ?_ | exact SeesB.of0 (Sees0.val _) | exact SeesB.of0 (Sees0.str _) | exact SeesB.of0 (Sees0.olds _ _) | exact SeesB.of0 (Sees0.old _) | exact SeesB.of0 (Sees0.oldagg _) | exact SeesB.of0 Sees0.nil | exact Sees0.val _ | exact Sees0.str _ | exact Sees0.olds _ _ | exact Sees0.old _ | exact Sees0.oldagg _ | exact Sees0.nil | exact SeesB.of0 (Sees0.any _) | assumption | exact sees_gv _ _ _ (by assumption) (by first | assumption | exact BoxIn.last _ _ | exact BoxIn.more (BoxIn.last _ _) _) | refine SeesB.agg ?_ | refine Sees0.agg ?_ | exact SeesB.of0 (Sees0.clo SeesL.nil SeesL.nil) | exact Sees0.clo SeesL.nil SeesL.nil | exact SeesB.of0 (Sees0.list rfl) | exact Sees0.list rfl) ?_)
  · omega
  · omega
  · omega
  · have := var_pos ‹varF x.2.2.1 = true›; omega
  · rename_i h1 h2
    rw [if_pos h1, if_pos h2] at hce
    conv => whnf
    refine own_rowF (by simp [hfl]) ?_
    rw [hce, ins_snoc, ins_snoc]
  · rename_i h1 h2
    rw [if_pos h1, if_neg (by simp [h2]), List.append_nil] at hce
    conv => whnf
    refine own_rowF (by simp [hfl]) ?_
    rw [hce, ins_snoc]
  · omega
  · omega
  · rename_i h1 h2
    rw [if_neg (by simp [h1]), if_pos h2, List.append_nil] at hce
    conv => whnf
    refine own_rowF (by simp [hfl]) ?_
    rw [hce, ins_snoc]
  · rename_i h1 h2
    rw [if_neg (by simp [h1]), if_neg (by simp [h2]), List.append_nil, List.append_nil] at hce
    conv => whnf
    refine own_rowF (l := insAll blt (vs x.2.1.2)) (by simpa using hfg) (by rw [hce])
end Go.Proofs.YtoindmahilbalaaGreat
namespace Go.Proofs.YtoindmahilbalaaGreat
open Abs
theorem SeesB.strs {bx : List ABox} {j t : Nat} {l : List Str} (hj : bx[j]? = some (.cells (.row t 1) (strs l).flatten)) : SeesB bx (.bsl j l.length) (.list none (Abs.strs l)) := by
  refine SeesB.bsl hj (by simp) (strs_sz l) ?_
  rw [strs_eq]
  clear hj
  induction l with
  | nil => exact .nil
  | cons s l ih => exact .cons (SeesB.of0 (Sees0.str s)) ih
theorem inBL_of {m : Nat} : ∀ {cs : List AV}, (∀ c ∈ cs, inB m c) → inB.inBL m cs
  | [], _ => trivial
  | c :: cs, h => ⟨h c (by simp), inBL_of fun d hd => h d (by simp [hd])⟩
end Go.Proofs.YtoindmahilbalaaGreat
namespace Go.Proofs.YtoindmahilbalaaGreat
open Abs
theorem Abs.Need.finN {p q : Prop} (k : q) (h : p := by intros; (try simp only [length_strs] at *); (try simp only [length_rows] at *); (try simp only [length_oldLL, List.length_map, Int.toNat_natCast] at *); (try simp only [Bool.and_eq_true, decide_eq_true_eq] at *); omega) : Need p q := ⟨h, k⟩
theorem Abs.Ix.strsN {gd : Bool} {l : List Str} {i : Int} {sz : Nat} {k : List AV → Prop} (hs : 1 = sz) (hk : k [.str (l.getD i.toNat [])]) (h : gd = true → 0 ≤ i ∧ i < l.length := by intros; (try simp only [length_strs] at *); (try simp only [length_rows] at *); (try simp only [length_oldLL, List.length_map, Int.toNat_natCast] at *); (try simp only [Bool.and_eq_true, decide_eq_true_eq] at *); omega) : Ix gd (Abs.strs l) i sz k := Ix.strs hs h hk
theorem Abs.Ix.mapN {α : Type} [Inhabited α] {gd : Bool} {l : List α} {q : α → List Tr} {i : Int} {sz : Nat} {k : List AV → Prop} (hs : ∀ a, (q a).length = sz) (hk : k (oldL (q (l.getD i.toNat default)))) (h : gd = true → 0 ≤ i ∧ i < l.length := by intros; (try simp only [length_strs] at *); (try simp only [length_rows] at *); (try simp only [length_oldLL, List.length_map, Int.toNat_natCast] at *); (try simp only [Bool.and_eq_true, decide_eq_true_eq] at *); omega) : Ix gd (oldLL (l.map q)) i sz k := Ix.map hs h hk
theorem Abs.Fork.decY {c : Prop} [Decidable c] {p q : Prop} (k : p) (h : c := by (try simp only [length_oldLL, length_rows, length_strs, length_tks, List.length_map, Int.toNat_natCast]); omega) : Fork (decide c) p q := .decYes h k
theorem Abs.Fork.decN {c : Prop} [Decidable c] {p q : Prop} (k : q) (h : ¬ c := by (try simp only [length_oldLL, length_rows, length_strs, length_tks, List.length_map, Int.toNat_natCast]); omega) : Fork (decide c) p q := .decNo h k
theorem Abs.Fork.andY {a b : Prop} [Decidable a] [Decidable b] {p q : Prop} (k : p) (h : a ∧ b := by (try simp only [length_oldLL, length_rows, length_strs, length_tks, List.length_map, Int.toNat_natCast]); omega) : Fork (decide a && decide b) p q := .yes (by simp [h.1, h.2]) k
theorem Abs.Fork.andN {a b : Prop} [Decidable a] [Decidable b] {p q : Prop} (k : q) (h : ¬ (a ∧ b) := by (try simp only [length_oldLL, length_rows, length_strs, length_tks, List.length_map, Int.toNat_natCast]); omega) : Fork (decide a && decide b) p q := .no (by rw [← Bool.decide_and]; exact decide_eq_false h) k
theorem ok_strT (l : List Str) : okT (strT l) = true := ok_list Ty.str _ l
theorem Abs.SeesB.bptr1 {bx : List ABox} {j : Nat} {x y : AV} (hj : bx[j]? = some (.cells .var [x])) (h : SeesB bx x y) (hn : noRef y = true) : SeesB bx (.bptr j 0) (.rptr [y]) :=
  SeesB.bptr (off := 0) (ys := [y]) hj (SeesL.cons h SeesL.nil) (fun z hz => by rw [List.mem_singleton.1 hz]; exact hn)
theorem Abs.Sees0.takeold {n : Nat} {xs : List Tr} (h : xs.length = n) : Sees0 (.agg (List.take n (oldL xs))) (.agg (oldL xs)) := by
  rw [List.take_of_length_le (by rw [oldL_eq, List.length_map, h]; exact Nat.le_refl _)]
  exact Sees0.oldagg xs
theorem Abs.Sees0.rptrL (xs : List (List Tr)) : Sees0 (.rptr [.list none (oldLL xs)]) (.rptr [.list none (oldLL xs)]) := Sees0.erase (by
  show AV.rptr [AV.list none (mapTLL noTok (oldLL xs))] = _
  rw [mapTLL_old])
theorem Abs.ACall.scalC {C : Con} {lend : Bool} {f : Nat} {vs : List AV} {b : List ABox} {fr : Fr} {k : AV → List ABox → Fr → Prop} (ys : List AV) (r : AV) (h : C.ret f ys r []) (hr : isScalR r = true) (hk : k r b fr)
    (hv : SeesL (SeesB b) vs ys := by repeat' first | exact SeesL.nil | refine SeesL.cons ?_ ?_ | exact SeesB.of0 (Sees0.val _) | exact SeesB.of0 (Sees0.str _) | exact SeesB.of0 (Sees0.olds _ _) | exact SeesB.of0 (Sees0.old _) | exact SeesB.of0 (Sees0.oldagg _) | exact SeesB.of0 Sees0.nil | exact SeesB.of0 (Sees0.clo SeesL.nil SeesL.nil) | refine SeesB.of0 (Sees0.takeold (n := _) ?_) | exact SeesB.of0 (Sees0.rptrL _) | exact SeesB.of0 (Sees0.erase rfl) | exact SeesB.of0 (Sees0.list rfl) | refine SeesB.clo ?_ ?_ | refine SeesB.bptr1 rfl ?_ rfl | refine SeesB.agg ?_ | rfl) : ACall C lend f vs b fr k := .scal ys r h hr hv hk
theorem Abs.AGCall.scalC {C : Con} {f : Nat} {vs : List AV} {gd : Bool} {b : List ABox} {k : AV → Prop} (ys : List AV) (r : AV) (h : gd = true → C.ret f ys r []) (hr : isScalR r = true) (hk : k r)
    (hv : SeesL (SeesB b) vs ys := by repeat' first | exact SeesL.nil | refine SeesL.cons ?_ ?_ | exact SeesB.of0 (Sees0.val _) | exact SeesB.of0 (Sees0.str _) | exact SeesB.of0 (Sees0.olds _ _) | exact SeesB.of0 (Sees0.old _) | exact SeesB.of0 (Sees0.oldagg _) | exact SeesB.of0 Sees0.nil | exact SeesB.of0 (Sees0.clo SeesL.nil SeesL.nil) | refine SeesB.of0 (Sees0.takeold (n := _) ?_) | exact SeesB.of0 (Sees0.rptrL _) | exact SeesB.of0 (Sees0.erase rfl) | exact SeesB.of0 (Sees0.list rfl) | refine SeesB.clo ?_ ?_ | refine SeesB.bptr1 rfl ?_ rfl | refine SeesB.agg ?_ | rfl) : AGCall C f vs gd b k := .scal (.mk ys r h hr (fun _ => hv) hk)
theorem mem_insB {l : List Str} {x : Str} : x ∈ insAll blt l ↔ x ∈ l := insAll_mem blt_sto l x
theorem insB_congr {l m : List Str} (h : ∀ x, x ∈ l ↔ x ∈ m) : insAll blt l = insAll blt m :=
  Asc.unique blt_sto (insAll_asc blt_sto l) (insAll_asc blt_sto m) fun x => by rw [mem_insB, mem_insB]; exact h x
theorem insB_left (l m : List Str) : insAll blt (insAll blt l ++ m) = insAll blt (l ++ m) := insB_congr fun x => by simp [mem_insB]
section
variable {α : Type}
def fm (f : α → List Str) (l : List α) : List Str := l.flatMap f
theorem fm_take (d : α) (f : α → List Str) {l : List α} {i : Nat} (h : i < l.length) : fm f (l.take (i + 1)) = fm f (l.take i) ++ f (l.getD i d) := by
  rw [take_succ' d h]; simp [fm]
theorem fm_mem {f : α → List Str} {l : List α} {x : Str} : x ∈ fm f l ↔ ∃ a ∈ l, x ∈ f a := by simp [fm]
theorem fm_len (T : Ty α) (f : α → List Str) (h : ∀ a, (f a).length ≤ T.size a) : ∀ l : List α, (fm f l).length ≤ listSize T l
  | [] => Nat.le_refl _
  | a :: l => by
    have ih := fm_len T f h l
    have e : listSize T (a :: l) = T.size a + listSize T l := rfl
    have e2 : fm f (a :: l) = f a ++ fm f l := rfl
    have := h a
    rw [e, e2, List.length_append]; omega
theorem fm_lenT (T : Ty α) (f : α → List Str) (h : ∀ a, (f a).length ≤ T.size a) (l : List α) (i : Nat) : (fm f (l.take i)).length ≤ listSize T l :=
  Nat.le_trans (fm_len T f h _) (listSize_take_le T l i)
theorem size_app (l m : List Str) : listSize Ty.str (l ++ m) = listSize Ty.str l + listSize Ty.str m := by
  induction l with
  | nil => simp [listSize]
  | cons x l ih =>
    have e : listSize Ty.str (x :: l) = x.length + listSize Ty.str l := rfl
    have e2 : listSize Ty.str (x :: l ++ m) = x.length + listSize Ty.str (l ++ m) := rfl
    rw [e, e2, ih]; omega
end
theorem cvF_size (x : VCond) : listSize Ty.str (cvF x) ≤ tCond.size x := by
  have hz := tCond_sz x
  have e : listSize Ty.str [x.2.2.1, x.2.2.2] = x.2.2.1.length + (x.2.2.2.length + 0) := rfl
  rw [cvF, size_app, e]; omega
theorem ins_vs_len (l : List Str) : (insAll blt (vs l)).length ≤ listSize Ty.str l := Nat.le_trans (insAll_le _) (vs_sz l)
theorem tAction_sz (a : VAction) : tAction.size a = a.2.1.length + (a.2.2.length + listSize Ty.str a.2.2) := by
  have h : tAction.size a = 0 + tFct.size a.2 := rfl
  rw [h, tFct_size, tStrs_size]; omega
theorem tRule_sz (r : VRule) : tRule.size r = r.1.length + (r.2.2.1.length + listSize tCond r.2.2.1) + (r.2.2.2.length + listSize tAction r.2.2.2) := by
  have h1 : tConds.size r.2.2.1 = r.2.2.1.length + listSize tCond r.2.2.1 := rfl
  have h2 : tActions.size r.2.2.2 = r.2.2.2.length + listSize tAction r.2.2.2 := rfl
  rw [tRule_size, h1, h2]; omega
/-- the variables that a condition binds -/
def bvC (x : VCond) : List Str := if x.1 = 1 then insAll blt (vs x.2.1.2) else []
def cvC (x : VCond) : List Str := insAll blt (vs (cvF x))
def avC (a : VAction) : List Str := insAll blt (vs a.2.2)
theorem bvC_len (x : VCond) : (bvC x).length ≤ tCond.size x := by
  have hz := tCond_sz x
  have := ins_vs_len x.2.1.2
  unfold bvC; split
  · omega
  · simp
theorem cvC_len (x : VCond) : (cvC x).length ≤ tCond.size x := Nat.le_trans (ins_vs_len _) (cvF_size x)
theorem avC_len (x : VAction) : (avC x).length ≤ tAction.size x := by
  have hz := tAction_sz x
  have := ins_vs_len x.2.2
  unfold avC; omega
def isActF (a : VAction) : Bool := if hasKind a.1 then isPatF a.2 else if a.1 = 3 then zeroP a.2 else false
def bvF (l : List VCond) (n : Nat) : List Str := insAll blt (fm bvC (l.take n))
def cvsF (l : List VCond) : List Str := insAll blt (fm cvC l)
def rvF (l : List VCond) (m : List VAction) : List Str := insAll blt (fm cvC l ++ fm avC m)
def elseF (l : List VCond) (m : List VAction) (i : Nat) (v : Str) : Bool := decide (v ∈ fm cvC (l.take i ++ l.drop (i + 1)) ++ fm avC m)
/-- a variable of a condition stands where it may -/
def okV (l : List VCond) (m : List VAction) (i : Nat) (x : VCond) (v : Str) : Bool := decide (v ∈ bvF l i) || (!isTestF x && !(x.1 == 2 && elseF l m i v))
def okC (l : List VCond) (m : List VAction) (i : Nat) (x : VCond) : Bool := isCondF x && (!(i == 0) || x.1 == 1) && (cvC x).all (okV l m i x)
def okA (b : List Str) (a : VAction) : Bool := isActF a && (avC a).all fun v => decide (v ∈ b)
def isRuleF (r : VRule) : Bool :=
  nameF r.1 && decide (0 ≤ r.2.1) && decide (r.2.1 ≤ 9) && decide (1 ≤ r.2.2.1.length) && decide (r.2.2.1.length ≤ 4) && decide (1 ≤ r.2.2.2.length) && decide (r.2.2.2.length ≤ 2)
    && ((List.range r.2.2.1.length).all fun i => okC r.2.2.1 r.2.2.2 i (r.2.2.1.getD i default)) && r.2.2.2.all (okA (bvF r.2.2.1 r.2.2.1.length)) && decide ((cvsF r.2.2.1).length ≤ 6)
theorem bvC_sub {x : VCond} {v : Str} (h : v ∈ bvC x) : v ∈ cvC x := by
  unfold bvC at h
  split at h
  · rw [cvC, mem_insB]
    rw [mem_insB] at h
    rw [cv_eq]
    simp [h]
  · cases h
theorem bvF_mem {l : List VCond} {n : Nat} {v : Str} : v ∈ bvF l n ↔ ∃ x ∈ l.take n, v ∈ bvC x := by rw [bvF, mem_insB, fm_mem]
/-- where actions use what is bound, they add no variable -/
theorem rv_cvs {l : List VCond} {m : List VAction} (h : m.all (okA (bvF l l.length)) = true) : rvF l m = cvsF l := by
  refine insB_congr fun v => ?_
  rw [List.mem_append]
  refine ⟨fun hv => ?_, .inl⟩
  rcases hv with hv | hv
  · exact hv
  · obtain ⟨a, ha, hv⟩ := fm_mem.1 hv
    have h1 := List.all_eq_true.1 h a ha
    rw [okA, Bool.and_eq_true] at h1
    have h2 := of_decide_eq_true (List.all_eq_true.1 h1.2 v hv)
    obtain ⟨x, hx, hv⟩ := bvF_mem.1 h2
    rw [List.take_length] at hx
    exact fm_mem.2 ⟨x, hx, bvC_sub hv⟩
theorem rule_no {r : VRule} (h : ¬ (nameF r.1 = true ∧ 0 ≤ r.2.1 ∧ r.2.1 ≤ 9 ∧ 1 ≤ r.2.2.1.length ∧ r.2.2.1.length ≤ 4 ∧ 1 ≤ r.2.2.2.length ∧ r.2.2.2.length ≤ 2)) : isRuleF r = false := by
  rw [Bool.eq_false_iff]
  intro h'
  simp only [isRuleF, Bool.and_eq_true, decide_eq_true_eq] at h'
  exact h ⟨h'.1.1.1.1.1.1.1.1.1, h'.1.1.1.1.1.1.1.1.2, h'.1.1.1.1.1.1.1.2, h'.1.1.1.1.1.1.2, h'.1.1.1.1.1.2, h'.1.1.1.1.2, h'.1.1.1.2⟩
theorem rule_noC {r : VRule} {i : Nat} (hi : i < r.2.2.1.length) (h : okC r.2.2.1 r.2.2.2 i (r.2.2.1.getD i default) = false) : isRuleF r = false := by
  have : ((List.range r.2.2.1.length).all fun i => okC r.2.2.1 r.2.2.2 i (r.2.2.1.getD i default)) = false := by
    rw [List.all_eq_false]
    exact ⟨i, List.mem_range.2 hi, by rw [h]; simp⟩
  rw [isRuleF, this, Bool.and_false, Bool.false_and, Bool.false_and]
theorem getD_mem {α : Type} [Inhabited α] {l : List α} {i : Nat} (hi : i < l.length) : l.getD i default ∈ l := by simp [List.getD, hi]
theorem rule_noA {r : VRule} {i : Nat} (hi : i < r.2.2.2.length) (h : okA (bvF r.2.2.1 r.2.2.1.length) (r.2.2.2.getD i default) = false) : isRuleF r = false := by
  have : r.2.2.2.all (okA (bvF r.2.2.1 r.2.2.1.length)) = false := by
    rw [List.all_eq_false]
    exact ⟨_, getD_mem hi, by rw [h]; simp⟩
  simp [isRuleF, this]
theorem rule_yes {r : VRule} (h : nameF r.1 = true ∧ 0 ≤ r.2.1 ∧ r.2.1 ≤ 9 ∧ 1 ≤ r.2.2.1.length ∧ r.2.2.1.length ≤ 4 ∧ 1 ≤ r.2.2.2.length ∧ r.2.2.2.length ≤ 2)
    (hc : ∀ i, i < r.2.2.1.length → okC r.2.2.1 r.2.2.2 i (r.2.2.1.getD i default) = true) (ha : ∀ i, i < r.2.2.2.length → okA (bvF r.2.2.1 r.2.2.1.length) (r.2.2.2.getD i default) = true) :
    isRuleF r = decide ((rvF r.2.2.1 r.2.2.2).length ≤ 6) := by
  have h1 : ((List.range r.2.2.1.length).all fun i => okC r.2.2.1 r.2.2.2 i (r.2.2.1.getD i default)) = true := List.all_eq_true.2 fun i hi => hc i (List.mem_range.1 hi)
  have h2 : r.2.2.2.all (okA (bvF r.2.2.1 r.2.2.1.length)) = true := List.all_eq_true.2 fun a ha' => by
    obtain ⟨i, hi⟩ := List.getElem?_of_mem ha'
    have hl := getElem?_lt hi
    have := ha i hl
    have e : r.2.2.2.getD i default = a := by simp [List.getD, hi]
    rwa [e] at this
  obtain ⟨a1, a2, a3, a4, a5, a6, a7⟩ := h
  rw [rv_cvs h2]
  simp only [isRuleF, a1, a2, a3, a4, a5, a6, a7, h1, h2, decide_true, Bool.and_self, Bool.true_and]
end Go.Proofs.YtoindmahilbalaaGreat
namespace Go.Proofs.YtoindmahilbalaaGreat
open Abs
abbrev tokT (ts : List VToken) : Tr := .l 90 2 (ts.map tToken.q)
abbrev TA := AccO tToken 90 0
/-- a token with one more fact, behind others: where its slices lie -/
theorem tok_own {F : Fr} {kf kb : Nat} {fs : List Fct} {m : List VPair} {ys : List (List AV)} {us : List Nat} (h : AccO tFct 86 kf F fs ys us) (hb : F[kb]? = some (141, 2, m.length)) (hne : kb ≠ kf) (hbu : kb ∉ us) :
    ∃ vs, OwnA F (tToken.q (fs, m)) [.list (some kf) ys, .list (some kb) (pairs m)] vs ∧ vs.Nodup ∧ ∀ j ∈ vs, j = kf ∨ j = kb ∨ j ∈ us := by
  have h1 : OwnA F [.l 141 2 (m.map tPair.q)] [.list (some kb) (pairs m)] [kb] := plain_ownA tPair (fun _ => rfl) (fun _ => rfl) F _ kb m hb .nil
  refine ⟨kf :: us ++ [kb], .l 86 2 (fs.map tFct.q) kf ys (by rw [h.hk, List.length_map]; rfl) (by rw [h.hl, List.length_map]) (fun e he => ?_) h.hs h.own h1, ?_, fun j hj => ?_⟩
  · obtain ⟨a, _, rfl⟩ := List.mem_map.1 he
    exact tFct.hq a
  · rw [List.cons_append, List.nodup_cons, List.nodup_append]
    refine ⟨fun hm => ?_, h.nd, by simp, fun a ha b hb' e => ?_⟩
    · rcases List.mem_append.1 hm with hm | hm
      · exact h.kn hm
      · exact hne (List.mem_singleton.1 hm).symm
    · rw [List.mem_singleton.1 hb'] at e; exact hbu (e ▸ ha)
  · rcases List.mem_append.1 hj with hj | hj
    · rcases List.mem_cons.1 hj with hj | hj
      · exact .inl hj
      · exact .inr (.inr hj)
    · exact .inr (.inl (List.mem_singleton.1 hj))
/-- one more token: its binding first, then its facts, then the new fact -/
theorem tok_step {F : Fr} {acc : List VToken} {ys : List (List AV)} {ts : List Nat} (hA : TA F acc ys ts) (fs : List Fct) (f : Fct) (m : List VPair) {n n1 n2 c c' : Nat} (hn : n = F.length) (hn1 : n1 = n + 1 + (frs tFct fs).length) (hn2 : n2 = n1 + 1) (hc : c = fs.length + 1) (hc' : c' = acc.length + 1) :
    ∃ us, TA ((((F ++ [(141, 2, m.length)]) ++ tFcts.fr fs ++ tFct.fr f).set n1 (86, 2, c)).set 0 (90, 2, c')) (acc ++ [(fs ++ [f], m)]) (ys ++ [[.list (some n1) (tks tFct fs (n + 1) ++ [tFct.tk f n2]), .list (some n) (pairs m)]]) us := by
  subst hn hn1 hn2 hc
  obtain ⟨us1, h1, g1⟩ := AccO.ofTks tFct 86 fs (F ++ [(141, 2, m.length)])
  have hl1 : (F ++ [(141, 2, m.length)]).length = F.length + 1 := by simp
  rw [hl1] at h1 g1
  have hfr : tFcts.fr fs = frs tFct fs ++ [(86, tFct.sz, fs.length)] := rfl
  rw [hfr]
  generalize hF2 : (F ++ [(141, 2, m.length)]) ++ (frs tFct fs ++ [(86, tFct.sz, fs.length)]) = F2 at h1 ⊢
  have hl2 : F2.length = F.length + 1 + (frs tFct fs).length + 1 := by rw [← hF2]; simp; omega
  obtain ⟨us2, h2, n2, g2⟩ := tFct.tkOwn f (n := F.length + 1 + (frs tFct fs).length + 1) (F := F2 ++ tFct.fr f) (fun i x hi => by rw [List.getElem?_append_right (by omega), hl2, Nat.add_sub_cancel_left]; exact hi)
  have h3 := (h1.grow (tFct.fr f)).snoc (m := fs.length + 1) f _ us2 rfl h2 n2 (fun j hj => by
    have := g2 j hj
    exact ⟨by omega, fun hm => by have := (g1 j hm).2; omega⟩)
  have hbk : ((F2 ++ tFct.fr f).set (F.length + 1 + (frs tFct fs).length) (86, tFct.sz, fs.length + 1))[F.length]? = some (141, 2, m.length) := by
    rw [List.getElem?_set, if_neg (by omega), List.getElem?_append_left (by omega), ← hF2, List.getElem?_append_left (by simp), List.getElem?_append_right (Nat.le_refl _), Nat.sub_self]; rfl
  have hF3 : ∀ j, j < F.length → ((F2 ++ tFct.fr f).set (F.length + 1 + (frs tFct fs).length) (86, tFct.sz, fs.length + 1))[j]? = F[j]? := fun j hj => by
    rw [List.getElem?_set, if_neg (by omega), List.getElem?_append_left (by omega), ← hF2, List.getElem?_append_left (by simp; omega), List.getElem?_append_left hj]
  obtain ⟨vs, o1, o2, o3⟩ := tok_own h3 hbk (by omega) (fun hm => by
    rcases List.mem_append.1 hm with hm | hm
    · have := (g1 _ hm).1; omega
    · have := (g2 _ hm).1; omega)
  have hA' : TA ((F2 ++ tFct.fr f).set (F.length + 1 + (frs tFct fs).length) (86, tFct.sz, fs.length + 1)) acc ys ts :=
    ⟨by rw [hF3 0 hA.klt]; exact hA.hk, hA.hl, hA.hs, hA.own.mono fun j hj => hF3 j (hA.own.lt j hj), hA.nd, hA.kn⟩
  have h0 := hA.klt
  refine ⟨_, hA'.snoc _ _ vs hc' o1 o2 fun j hj => ?_⟩
  have hlow : ∀ j, j ∈ vs → F.length ≤ j := fun j hj => by
    rcases o3 j hj with h | h | h
    · omega
    · omega
    · rcases List.mem_append.1 h with h | h
      · have := (g1 _ h).1; omega
      · have := (g2 _ h).1; omega
  have := hlow j hj
  exact ⟨by omega, fun hm => by have := hA.own.lt j hm; omega⟩
theorem tok_head {F : Fr} {acc : List VToken} {ys : List (List AV)} {ts : List Nat} (hA : TA F acc ys ts) (fs : List Fct) (f : Fct) (m : List VPair) :
    (((F ++ [(141, 2, m.length)]) ++ tFcts.fr fs ++ tFct.fr f).set (F.length + 1 + (frs tFct fs).length) (86, 2, fs.length + 1))[0]? = some (90, 2, ys.length) := by
  have := hA.klt
  rw [List.getElem?_set, if_neg (by omega), List.getElem?_append_left (by simp; omega), List.getElem?_append_left (by simp), List.getElem?_append_left this, hA.hk, hA.hl]; rfl
/-- a copy of a token -/
theorem tok_copy {F : Fr} {acc : List VToken} {ys : List (List AV)} {ts : List Nat} (hA : TA F acc ys ts) (t : VToken) {n c' : Nat} (hn : n = F.length) (hc' : c' = acc.length + 1) :
    ∃ us, TA ((F ++ tToken.fr t).set 0 (90, 2, c')) (acc ++ [t]) (ys ++ [tToken.tk t n]) us := by
  subst hn
  obtain ⟨us2, h2, n2, g2⟩ := tToken.tkOwn t (n := F.length) (F := F ++ tToken.fr t) (fun i x hi => by rw [List.getElem?_append_right (by omega), Nat.add_sub_cancel_left]; exact hi)
  refine ⟨_, (hA.grow (tToken.fr t)).snoc t _ us2 hc' h2 n2 fun j hj => ?_⟩
  have := g2 j hj
  have h0 := hA.klt
  exact ⟨by omega, fun hm => by have := hA.own.lt j hm; omega⟩
theorem sCopyT.own (t : VToken) (h : tToken.size t ≤ 1048576) : sCopyT.Own [.agg (oldL (tToken.q t))] (.a (tToken.q t)) := by
  rw [tToken_size] at h
  refine Ty.ownA tToken ?_
  refine sCopyT.of rfl ?_
  have hf := tFcts_canon.ret rfl rfl (sCopies.own t.1 (by omega))
  have hb := sCopyB.ret t.2 (by omega)
  repeat' first
    | (conv => whnf
       first | refine Need.mk rfl ?_ | refine Need.mk ⟨rfl, Nat.le_of_ble_eq_true rfl⟩ ?_ | refine Need.mk (Nat.le_of_ble_eq_true rfl) ?_ | refine FinAgg.keep ?_ | refine Final.mk rfl rfl | refine ACall.mkFcts _ _ (hf) (by repeat' first | exact SeesL.nil | refine SeesL.cons ?_ ?_ | exact SeesB.of0 (Sees0.val _) | exact SeesB.of0 (Sees0.str _) | exact SeesB.of0 (Sees0.olds _ _) | exact SeesB.of0 (Sees0.old _) | exact SeesB.of0 (Sees0.oldagg _) | exact SeesB.of0 Sees0.nil | exact Sees0.val _ | exact Sees0.str _ | exact Sees0.olds _ _ | exact Sees0.old _ | exact Sees0.oldagg _ | exact Sees0.nil | exact SeesB.of0 (Sees0.any _) | assumption | exact sees_gv _ _ _ (by assumption) (by first | assumption | exact BoxIn.last _ _ | exact BoxIn.more (BoxIn.last _ _) _) | refine SeesB.agg ?_ | refine Sees0.agg ?_ | exact SeesB.of0 (Sees0.clo SeesL.nil SeesL.nil) | exact Sees0.clo SeesL.nil SeesL.nil | exact SeesB.of0 (Sees0.list rfl) | exact Sees0.list rfl) ?_ | refine ACall.mkLA _ _ _ _ (hb) ?_)
theorem sMatchFact.retB (p : VPattern) (f : Fct) (b : List VPair) (h1 : tPattern.size p ≤ 1048576) (h2 : tFct.size f ≤ 1048576) (h3 : tPairs.size b ≤ 1048576) :
    sMatchFact.Ret [.agg (oldL (tPattern.q p)), .agg (oldL (tFct.q f)), .list none (pairs b)] (.tup [.list (some 0) (pairs ((matM p f b).getD [])), .val (.bool (matM p f b).isSome)]) [(141, 2, ((matM p f b).getD []).length)] :=
  plain_retP (fun _ => rfl) (fun _ => rfl) tPair_canon (sMatchFact.own p f b h1 h2 h3)
/-- the tokens that a token gives with the first facts -/
def hasF (l : List Fct) (p : VPattern) (t : VToken) : List VToken := l.filterMap fun f => (matM p f t.2).map fun b => (t.1 ++ [f], b)
theorem hasF_yes {l : List Fct} {p : VPattern} {t : VToken} {k : Nat} (hk : k < l.length) {b : List VPair} (h : matM p (l.getD k default) t.2 = some b) : hasF (l.take (k + 1)) p t = hasF (l.take k) p t ++ [(t.1 ++ [l.getD k default], b)] := by
  rw [take_succ' default hk, hasF, List.filterMap_append]
  generalize l.getD k default = f at h ⊢
  simp [hasF, h]
theorem hasF_no {l : List Fct} {p : VPattern} {t : VToken} {k : Nat} (hk : k < l.length) (h : matM p (l.getD k default) t.2 = none) : hasF (l.take (k + 1)) p t = hasF (l.take k) p t := by
  rw [take_succ' default hk, hasF, List.filterMap_append]
  generalize l.getD k default = f at h ⊢
  simp [hasF, h]
theorem hasF_le (l : List Fct) (p : VPattern) (t : VToken) (k : Nat) : (hasF (l.take k) p t).length ≤ l.length :=
  Nat.le_trans (List.length_filterMap_le _ _) (by rw [List.length_take]; omega)
theorem nextF_has {l : List Fct} {x : VCond} (h : x.1 = 1) (t : VToken) : nextF l x t = hasF l x.2.1 t := by rw [nextF, if_pos h]; rfl
theorem tok_sz {l : List Fct} {n : Nat} {t : VToken} (hl : ∀ f ∈ l, isFactF f = true) (h : GoodT l n t) (hn : n ≤ 5) : tToken.size t ≤ 1048576 := by
  have := goodT_size hl h hn
  rw [tToken_size]; omega
theorem tget {ts : List VToken} {i : Nat} (hi : i < ts.length) : ts.getD i default ∈ ts := by
  rw [List.getD_eq_getElem?_getD, List.getElem?_eq_getElem hi]; exact List.getElem_mem hi
set_option maxHeartbeats 4000000 in
theorem sNext.own (ts : List VToken) (x : VCond) (l : List Fct) (hx : tCond.size x ≤ 1048576) (h : tFcts.size l ≤ 1048576) (hl : ∀ f ∈ l, isFactF f = true) (hl24 : l.length ≤ 24) (hts : ts.length ≤ 331776) (hg : ∀ t ∈ ts, GoodT l 4 t) :
    sNext.Own [.list none (rows tToken ts), .agg (oldL (tCond.q x)), .list none (facts l)] (tokT (stepF l ts x)) := by
  refine Own.of_irP (code := sNext.code) (rs := sNext.res) (K := sNext.keep) Tryz.func93 rfl (by kernel_rfl) (Nat.le_of_ble_eq_true rfl) (by kernel_rfl) (by kernel_rfl) ?_
  have hp := tCond_pat x
  rw [tFcts_size] at h
  repeat' first
    | (conv => whnf
       first | refine Need.mk rfl ?_)
  refine ALoop.mk (Nat × Fr × List (List AV)) (fun i => ⟨[(0, .list none (rows tToken ts)), (2, .list none (facts l)), (4, .bptr 0 0), (7, .list (some 0) i.2.2), (8, .val (.int .i64 i.1))], [.cells .var (oldL (tCond.q x))], i.2.1⟩)
    (fun i => i.1 ≤ ts.length ∧ ∃ us, TA i.2.1 (stepF l (ts.take i.1) x) i.2.2 us) (fun i => ts.length - i.1) ⟨(0, [(90, 2, 0)], []), ⟨Nat.zero_le _, [], AccO.nil rfl⟩, ?_⟩ (fun i hi => ?_)
  · repeat' first
      | exact trivial | refine Weak.mk ?_ ?_ ?_ ?_ (Or.inl (Nat.le_of_ble_eq_true rfl)) | refine And.intro ?_ ?_ | with_reducible rfl | exact Nat.le_of_ble_eq_true rfl | refine fr1 ?_ | refine AV.int_congr ?_ | refine AV.list_congr ?_ | (apply rfl)
  obtain ⟨i, F, ys⟩ := i
  obtain ⟨hi, us, hA⟩ := hi
  simp only at hi hA ⊢
  have hrl : (rows tToken ts).length = ts.length := length_rows _ _
  have hfl : (facts l).length = l.length := length_rows _ _
  by_cases hi' : i < ts.length
  rotate_left
  · have e : i = ts.length := by omega
    subst e
    rw [List.take_length] at hA
    repeat' first
      | (conv => whnf
         first | refine Need.mk rfl ?_ | refine Fork.decN ?_)
    exact hA.final
  have hgt := hg _ (tget hi')
  have hsz := goodT_size hl hgt (by omega)
  have hAk := hA.hk
  have hAl := hA.hl
  have hle := stepF_le hl24 (x := x) ts i
  by_cases hk : x.1 = 1
  · repeat' first
      | contradiction
      | (conv => whnf
         first | refine Need.mk rfl ?_ | refine Fork.decY ?_ | refine Fork.bne (fun _ => ?_) (fun _ => ?_))
    refine ALoop.mk (Nat × Fr × List (List AV)) (fun k => ⟨[(0, .list none (rows tToken ts)), (2, .list none (facts l)), (4, .bptr 0 0), (7, .list (some 0) k.2.2), (8, .val (.int .i64 i)), (9, .val (.int .i64 k.1))], [.cells .var (oldL (tCond.q x))], k.2.1⟩)
      (fun k => k.1 ≤ l.length ∧ ∃ us, TA k.2.1 (stepF l (ts.take i) x ++ hasF (l.take k.1) x.2.1 (ts.getD i default)) k.2.2 us) (fun k => l.length - k.1) ⟨(0, F, ys), ⟨Nat.zero_le _, us, by simpa [hasF] using hA⟩, ?_⟩ (fun k hk2 => ?_)
    · repeat' first
        | exact trivial | refine Weak.mk ?_ ?_ ?_ ?_ (Or.inl (Nat.le_of_ble_eq_true rfl)) | refine And.intro ?_ ?_ | with_reducible rfl | exact Nat.le_of_ble_eq_true rfl | refine AV.int_congr ?_ | refine AV.list_congr ?_ | (apply rfl)
    obtain ⟨k, G, zs⟩ := k
    obtain ⟨hk2, vs, hB⟩ := hk2
    simp only at hk2 hB ⊢
    have hBk := hB.hk
    have hBl := hB.hl
    have hle2 := hasF_le l x.2.1 (ts.getD i default) k
    rw [List.length_append] at hBk hBl
    by_cases hk' : k < l.length
    rotate_left
    · have e : k = l.length := by omega
      subst e
      rw [List.take_length, ← nextF_has hk, ← stepF_take hi'] at hB
      repeat' first
        | (conv => whnf
           first | refine Need.mk rfl ?_ | refine Fork.decN ?_ | refine Round.mk ?_)
      refine ⟨(i + 1, G, zs), ⟨by simp only; omega, vs, hB⟩, ?_, by simp only; omega⟩
      repeat' first
        | exact trivial | refine Weak.mk ?_ ?_ ?_ ?_ (Or.inl (Nat.le_of_ble_eq_true rfl)) | refine And.intro ?_ ?_ | with_reducible rfl | exact Nat.le_of_ble_eq_true rfl | refine AV.int_congr ?_ | refine AV.list_congr ?_ | (apply rfl)
      rw [wrap64 (by omega) (by omega)]; rfl
    have hf1 : tFct.size (l.getD k default) ≤ 1048576 := by have := fct_le hk'; omega
    have hm := sMatchFact.retB x.2.1 (l.getD k default) (ts.getD i default).2 (by omega) hf1 (by omega)
    have hfs := tFcts_canon.ret rfl rfl (sCopies.own (ts.getD i default).1 (by omega))
    have hfc := sCopy.ret (l.getD k default) hf1
    cases hmm : matM x.2.1 (l.getD k default) (ts.getD i default).2 with
    | none =>
      rw [hmm] at hm
      repeat' first
        | contradiction
        | (conv => whnf
           first | refine Need.mk rfl ?_ | refine Need.mk (Nat.le_of_ble_eq_true rfl) ?_ | refine Ix.mapN (fun _ => rfl) ?_ | refine Fork.decY ?_ | refine Fork.mk (fun _ => ?_) (fun _ => ?_) | refine Round.mk ?_ | refine ACall.mkTB tPair _ _ _ _ (hm) (by repeat' first | exact SeesL.nil | refine SeesL.cons ?_ ?_ | exact SeesB.of0 (Sees0.val _) | exact SeesB.of0 (Sees0.str _) | exact SeesB.of0 (Sees0.olds _ _) | exact SeesB.of0 (Sees0.old _) | exact SeesB.of0 (Sees0.oldagg _) | exact SeesB.of0 Sees0.nil | exact Sees0.val _ | exact Sees0.str _ | exact Sees0.olds _ _ | exact Sees0.old _ | exact Sees0.oldagg _ | exact Sees0.nil | exact SeesB.of0 (Sees0.any _) | assumption | exact sees_gv _ _ _ (by assumption) (by first | assumption | exact BoxIn.last _ _ | exact BoxIn.more (BoxIn.last _ _) _) | refine SeesB.agg ?_ | refine Sees0.agg ?_ | exact SeesB.of0 (Sees0.clo SeesL.nil SeesL.nil) | exact Sees0.clo SeesL.nil SeesL.nil | exact SeesB.of0 (Sees0.list rfl) | exact Sees0.list rfl) ?_)
      refine ⟨(k + 1, G ++ [(141, 2, 0)], zs), ⟨by simp only; omega, vs, by rw [hasF_no hk' hmm]; exact hB.grow _⟩, ?_, by simp only; omega⟩
      repeat' first
        | exact trivial | refine Weak.mk ?_ ?_ ?_ ?_ (Or.inl (Nat.le_of_ble_eq_true rfl)) | refine And.intro ?_ ?_ | with_reducible rfl | exact Nat.le_of_ble_eq_true rfl | refine AV.int_congr ?_ | refine AV.list_congr ?_ | (apply rfl)
      rw [wrap64 (by omega) (by omega)]; rfl
    | some b =>
      rw [hmm] at hm
      obtain ⟨us', hS⟩ := tok_step hB (ts.getD i default).1 (l.getD k default) b (c' := (stepF l (ts.take i) x).length + (hasF (l.take k) x.2.1 (ts.getD i default)).length + 1) rfl rfl rfl rfl (by rw [List.length_append])
      rw [List.append_assoc (stepF l (ts.take i) x), ← hasF_yes hk' hmm] at hS
      repeat' first
        | contradiction
        | (conv => whnf
           first | refine Need.mk rfl ?_ | refine Need.mk (Nat.le_of_ble_eq_true rfl) ?_ | refine Need.finN ?_ | refine Ix.mapN (fun _ => rfl) ?_ | refine Fork.decY ?_ | refine Fork.mk (fun _ => ?_) (fun _ => ?_) | refine Lit.read rfl ?_ | refine ACall.mkTB tPair _ _ _ _ (hm) (by repeat' first | exact SeesL.nil | refine SeesL.cons ?_ ?_ | exact SeesB.of0 (Sees0.val _) | exact SeesB.of0 (Sees0.str _) | exact SeesB.of0 (Sees0.olds _ _) | exact SeesB.of0 (Sees0.old _) | exact SeesB.of0 (Sees0.oldagg _) | exact SeesB.of0 Sees0.nil | exact Sees0.val _ | exact Sees0.str _ | exact Sees0.olds _ _ | exact Sees0.old _ | exact Sees0.oldagg _ | exact Sees0.nil | exact SeesB.of0 (Sees0.any _) | assumption | exact sees_gv _ _ _ (by assumption) (by first | assumption | exact BoxIn.last _ _ | exact BoxIn.more (BoxIn.last _ _) _) | refine SeesB.agg ?_ | refine Sees0.agg ?_ | exact SeesB.of0 (Sees0.clo SeesL.nil SeesL.nil) | exact Sees0.clo SeesL.nil SeesL.nil | exact SeesB.of0 (Sees0.list rfl) | exact Sees0.list rfl) ?_ | refine ACall.mkFcts _ _ (hfs) (by repeat' first | exact SeesL.nil | refine SeesL.cons ?_ ?_ | exact SeesB.of0 (Sees0.val _) | exact SeesB.of0 (Sees0.str _) | exact SeesB.of0 (Sees0.olds _ _) | exact SeesB.of0 (Sees0.old _) | exact SeesB.of0 (Sees0.oldagg _) | exact SeesB.of0 Sees0.nil | exact Sees0.val _ | exact Sees0.str _ | exact Sees0.olds _ _ | exact Sees0.old _ | exact Sees0.oldagg _ | exact Sees0.nil | exact SeesB.of0 (Sees0.any _) | assumption | exact sees_gv _ _ _ (by assumption) (by first | assumption | exact BoxIn.last _ _ | exact BoxIn.more (BoxIn.last _ _) _) | refine SeesB.agg ?_ | refine Sees0.agg ?_ | exact SeesB.of0 (Sees0.clo SeesL.nil SeesL.nil) | exact Sees0.clo SeesL.nil SeesL.nil | exact SeesB.of0 (Sees0.list rfl) | exact Sees0.list rfl) ?_ | refine ACall.mkFct _ _ (hfc) (by repeat' first | exact SeesL.nil | refine SeesL.cons ?_ ?_ | exact SeesB.of0 (Sees0.val _) | exact SeesB.of0 (Sees0.str _) | exact SeesB.of0 (Sees0.olds _ _) | exact SeesB.of0 (Sees0.old _) | exact SeesB.of0 (Sees0.oldagg _) | exact SeesB.of0 Sees0.nil | exact Sees0.val _ | exact Sees0.str _ | exact Sees0.olds _ _ | exact Sees0.old _ | exact Sees0.oldagg _ | exact Sees0.nil | exact SeesB.of0 (Sees0.any _) | assumption | exact sees_gv _ _ _ (by assumption) (by first | assumption | exact BoxIn.last _ _ | exact BoxIn.more (BoxIn.last _ _) _) | refine SeesB.agg ?_ | refine Sees0.agg ?_ | exact SeesB.of0 (Sees0.clo SeesL.nil SeesL.nil) | exact Sees0.clo SeesL.nil SeesL.nil | exact SeesB.of0 (Sees0.list rfl) | exact Sees0.list rfl) ?_)
      have hG1 : (G ++ [(141, 2, ((some b).getD []).length)]).length = G.length + 1 := by simp
      have hfsz : (ts.getD i default).1.length ≤ 4 := hgt.le
      obtain ⟨F3, hF3⟩ := head_cons (tok_head hB (ts.getD i default).1 (l.getD k default) b)
      rw [hF3] at hS
      refine appK_to (F' := (90, 2, zs.length) :: F3) ?_ ?_ ?_ ?_ ?_
      · rw [length_tks, List.append_assoc, List.getElem?_append_right (by omega), List.getElem?_append_left (by simp [Ty.list, tFcts]), Nat.add_sub_cancel_left]
        show (frs tFct (ts.getD i default).1 ++ [_])[_]? = _
        rw [List.getElem?_append_right (Nat.le_refl _), Nat.sub_self]; rfl
      · intro c hc; rw [List.mem_singleton.1 hc]; exact tFct.htk _ _
      · rw [List.length_singleton, length_tks]; omega
      · rw [← hF3, hG1, length_tks]; rfl
      rw [hG1]
      have hG2 : (G ++ [(141, 2, ((some b).getD []).length)] ++ tFcts.fr (ts.getD i default).1).length = G.length + 1 + (frs tFct (ts.getD i default).1).length + 1 := by
        rw [show tFcts.fr (ts.getD i default).1 = frs tFct (ts.getD i default).1 ++ [(86, tFct.sz, (ts.getD i default).1.length)] from rfl]; simp only [List.length_append, List.length_singleton]; omega
      rw [hG2]
      repeat' first
        | (conv => whnf
           first | refine Need.mk rfl ?_ | refine Need.mk ?_ ?_ | refine Round.mk ?_ | refine Lit.read rfl ?_)
      · intro c hc; rw [List.mem_singleton.1 hc]; rfl
      · simp only [List.length_singleton]; omega
      · refine ⟨(k + 1, _, _), ⟨by simp only; omega, us', hS⟩, ?_, by simp only; omega⟩
        repeat' first
          | exact trivial | refine Weak.mk ?_ ?_ ?_ ?_ (Or.inl (Nat.le_of_ble_eq_true rfl)) | refine And.intro ?_ ?_ | with_reducible rfl | exact Nat.le_of_ble_eq_true rfl | refine AV.int_congr ?_ | refine AV.list_congr ?_ | (apply rfl)
        · rw [wrap64 (by omega) (by omega)]; rfl
        · rw [← hBl]; rfl
  · have hc := sHoldsCond.ret x (ts.getD i default).2 l hx (by omega) (by rw [tFcts_size]; exact h)
    have hco := tToken_canon.retA (sCopyT.own (ts.getD i default) (tok_sz hl hgt (by omega)))
    have hlen1 : ys.length + 1 ≤ 7962625 := by omega
    repeat' first
      | contradiction
      | (conv => whnf
         first | refine Need.mk rfl ?_ | refine Need.mk (Nat.le_of_ble_eq_true rfl) ?_ | refine Ix.mapN (fun _ => rfl) ?_ | refine Fork.decY ?_ | refine Fork.bne (fun _ => ?_) (fun _ => ?_) | refine Fork.mk (fun _ => ?_) (fun _ => ?_) | refine Round.mk ?_ | refine Lit.read rfl ?_ | refine AQCall.mkA _ _ (fun hg => hc) rfl ?_ | refine ACall.mk_Token _ _ (hco) (by repeat' first | exact SeesL.nil | refine SeesL.cons ?_ ?_ | exact SeesB.of0 (Sees0.val _) | exact SeesB.of0 (Sees0.str _) | exact SeesB.of0 (Sees0.olds _ _) | exact SeesB.of0 (Sees0.old _) | exact SeesB.of0 (Sees0.oldagg _) | exact SeesB.of0 Sees0.nil | exact Sees0.val _ | exact Sees0.str _ | exact Sees0.olds _ _ | exact Sees0.old _ | exact Sees0.oldagg _ | exact Sees0.nil | exact SeesB.of0 (Sees0.any _) | assumption | exact sees_gv _ _ _ (by assumption) (by first | assumption | exact BoxIn.last _ _ | exact BoxIn.more (BoxIn.last _ _) _) | refine SeesB.agg ?_ | refine Sees0.agg ?_ | exact SeesB.of0 (Sees0.clo SeesL.nil SeesL.nil) | exact Sees0.clo SeesL.nil SeesL.nil | exact SeesB.of0 (Sees0.list rfl) | exact Sees0.list rfl) ?_)
    · have hh : holdsCF x (ts.getD i default).2 l = true := by assumption
      have hnx : nextF l x (ts.getD i default) = [ts.getD i default] := by rw [nextF, if_neg hk, hh, if_pos rfl]
      obtain ⟨us', hS⟩ := tok_copy hA (ts.getD i default) (n := F.length) (c' := ys.length + 1) rfl (by omega)
      rw [← hnx, ← stepF_take hi'] at hS
      refine aOps_append (o := none) rfl rfl ?_ ?_ ?_ ?_
      · rw [List.getElem?_append_left hA.klt, hA.hk, ← hAl]; rfl
      · intro c hc; rw [List.mem_singleton.1 hc]; exact tToken.htk _ _
      · rw [List.length_singleton]; omega
      · repeat' first
          | (conv => whnf
             first | refine Need.mk rfl ?_ | refine Round.mk ?_)
        refine ⟨(i + 1, _, _), ⟨by simp only; omega, us', hS⟩, ?_, by simp only; omega⟩
        repeat' first
          | exact trivial | refine Weak.mk ?_ ?_ ?_ ?_ (Or.inl (Nat.le_of_ble_eq_true rfl)) | refine And.intro ?_ ?_ | with_reducible rfl | exact Nat.le_of_ble_eq_true rfl | refine AV.int_congr ?_ | refine AV.list_congr ?_ | (apply rfl)
        rw [wrap64 (by omega) (by omega)]; rfl
    · have hh : holdsCF x (ts.getD i default).2 l = false := by assumption
      have hnx : nextF l x (ts.getD i default) = [] := by rw [nextF, if_neg hk, hh, if_neg (by simp)]
      refine ⟨(i + 1, F, ys), ⟨by simp only; omega, us, by rw [stepF_take hi', hnx, List.append_nil]; exact hA⟩, ?_, by simp only; omega⟩
      repeat' first
        | exact trivial | refine Weak.mk ?_ ?_ ?_ ?_ (Or.inl (Nat.le_of_ble_eq_true rfl)) | refine And.intro ?_ ?_ | with_reducible rfl | exact Nat.le_of_ble_eq_true rfl | refine AV.int_congr ?_ | refine AV.list_congr ?_ | (apply rfl)
      rw [wrap64 (by omega) (by omega)]; rfl
theorem GoodT.mono {l : List Fct} {m n : Nat} {t : VToken} (h : GoodT l m t) (hm : m ≤ n) : GoodT l n t := ⟨Nat.le_trans h.le hm, h.mem, h.bind⟩
theorem nil_acc : TA [(90, 2, 1)] [([], [])] [[.val (.slice none 0 0), .val (.slice none 0 0)]] [] where
  hk := rfl
  hl := rfl
  hs y hy := by rw [List.mem_singleton.1 hy]; rfl
  own := .nils _ _ (.nils _ _ .nil)
  nd := List.nodup_nil
  kn := by simp
set_option maxHeartbeats 4000000 in
theorem sTokens.own (cs : List VCond) (l : List Fct) (hc : tConds.size cs ≤ 1048576) (hc4 : cs.length ≤ 4) (h : tFcts.size l ≤ 1048576) (hl : ∀ f ∈ l, isFactF f = true) (hl24 : l.length ≤ 24) :
    sTokens.Own [.list none (rows tCond cs), .list none (facts l)] (tokT (toksF l cs)) := by
  refine Own.of_irP (code := sTokens.code) (rs := sTokens.res) (K := sTokens.keep) Tryz.func51 rfl (by kernel_rfl) (Nat.le_of_ble_eq_true rfl) (by kernel_rfl) (by kernel_rfl) ?_
  rw [tConds_sz] at hc
  repeat' first
    | (conv => whnf
       first | refine Need.mk rfl ?_)
  refine ALoop.mk (Nat × Fr × Nat × List (List AV)) (fun i => ⟨[(0, .list none (rows tCond cs)), (1, .list none (facts l)), (5, .list (some i.2.2.1) i.2.2.2), (6, .val (.int .i64 i.1))], [], i.2.1⟩)
    (fun i => i.1 ≤ cs.length ∧ ∃ us, AccO tToken 90 i.2.2.1 i.2.1 (toksF l (cs.take i.1)) i.2.2.2 us) (fun i => cs.length - i.1) ⟨(0, [(90, 2, 1)], 0, [[.val (.slice none 0 0), .val (.slice none 0 0)]]), ⟨Nat.zero_le _, [], by rw [List.take_zero, toksF_nil]; exact nil_acc⟩, ?_⟩ (fun i hi => ?_)
  · repeat' first
      | exact trivial | refine Weak.mk ?_ ?_ ?_ ?_ (Or.inl (Nat.le_of_ble_eq_true rfl)) | refine And.intro ?_ ?_ | with_reducible rfl | exact Nat.le_of_ble_eq_true rfl | refine fr1 ?_ | refine AV.int_congr ?_ | refine AV.list_congr ?_ | (apply rfl)
  obtain ⟨i, F, kk, ys⟩ := i
  obtain ⟨hi, us, hA⟩ := hi
  simp only at hi hA ⊢
  have hrl : (rows tCond cs).length = cs.length := length_rows _ _
  by_cases hi' : i < cs.length
  rotate_left
  · have e : i = cs.length := by omega
    subst e
    rw [List.take_length] at hA
    repeat' first
      | (conv => whnf
         first | refine Need.mk rfl ?_ | refine Fork.decN ?_)
    exact hA.final
  have hx := tCond_le hi'
  have hn := tTokens_canon.ret rfl rfl (sNext.own (toksF l (cs.take i)) (cs.getD i default) l (by omega) h hl hl24 (toksF_len4 hl24 hc4 i) (fun t ht => (toksF_good l cs i hi t ht).mono (by omega)))
  repeat' first
    | (conv => whnf
       first | refine Need.mk rfl ?_ | refine Need.mk (Nat.le_of_ble_eq_true rfl) ?_ | refine Ix.mapN (fun _ => rfl) ?_ | refine Fork.decY ?_)
  conv => whnf
  rw [Int.toNat_natCast]
  refine ACall.mk_TokenS _ _ hn (SeesL.cons hA.sees (SeesL.cons ?_ (SeesL.cons ?_ SeesL.nil))) ?_
  · exact @Sees0.oldagg (tCond.q (cs.getD i default))
  · exact @Sees0.olds _ _
  repeat' first
    | (conv => whnf
       first | refine Need.mk rfl ?_ | refine Round.mk ?_)
  obtain ⟨us', hB, _⟩ := AccO.ofTks tToken 90 (stepF l (toksF l (cs.take i)) (cs.getD i default)) F
  rw [← toksF_succ l hi'] at hB
  refine ⟨(i + 1, _, _, _), ⟨by simp only; omega, us', hB⟩, ?_, by simp only; omega⟩
  rw [toksF_succ l hi']
  repeat' first
    | exact trivial | refine Weak.mk ?_ ?_ ?_ ?_ (Or.inl (Nat.le_of_ble_eq_true rfl)) | refine And.intro ?_ ?_ | with_reducible rfl | exact Nat.le_of_ble_eq_true rfl | refine AV.int_congr ?_ | refine AV.list_congr ?_ | (apply rfl)
  rw [wrap64 (by omega) (by omega)]; rfl
end Go.Proofs.YtoindmahilbalaaGreat
namespace Go.Proofs.YtoindmahilbalaaGreat
open Abs Go.RowKit
theorem fget {l : List Fct} {i : Nat} (hi : i < l.length) : l[i]? = some (l.getD i default) := by simp [List.getD, hi]
def zf : List AV := [.str [], .val (.slice none 0 0)]
theorem tks_mem {α : Type} (T : Ty α) {c : AV} : ∀ {l : List α} {n : Nat}, c ∈ (tks T l n).flatten → ∃ a m, c ∈ T.tk a m
  | [], _, h => by cases h
  | a :: l, n, h => by
    rw [tks, List.flatten_cons, List.mem_append] at h
    rcases h with h | h
    · exact ⟨a, n, h⟩
    · exact tks_mem T h
theorem part_inF (m : Nat) (l : List Fct) (i : Nat) : inB.inBL m (part zf (tks tFct l 0) i) := by
  refine inBL_of fun c hc => ?_
  rw [part, List.mem_append] at hc
  rcases hc with h | h
  · obtain ⟨x, hx, hc⟩ := List.mem_flatten.1 h
    obtain ⟨a, n, ha⟩ := tks_mem tFct (List.mem_flatten.2 ⟨x, List.mem_of_mem_take hx, hc⟩)
    have ha : c ∈ [AV.str a.1, .list (some n) (strs a.2)] := ha
    rcases List.mem_cons.1 ha with rfl | ha
    · trivial
    · rw [List.mem_singleton.1 ha]; trivial
  · obtain ⟨x, hx, hc⟩ := List.mem_flatten.1 h
    rw [List.eq_of_mem_replicate hx] at hc
    rcases List.mem_cons.1 hc with rfl | hc
    · trivial
    · rw [List.mem_singleton.1 hc]; trivial
theorem pcopyFacts.ret (l : List Fct) (h : tFcts.size l ≤ 1048576) : pcopyFacts.Ret [.list none (facts l)] (.list (some (frs tFct l).length) (tks tFct l 0)) (frs tFct l ++ [(86, 2, l.length)]) := by
  refine pcopyFacts.of rfl ?_
  rw [tFcts_size] at h
  have hfl : (facts l).length = l.length := length_rows _ _
  repeat' first
    | (conv => whnf
       first | refine Need.fin ?_)
  refine ALoop.mk Nat (fun i => ⟨[(3, .bsl 0 l.length), (9, .list none (facts l)), (10, .val (.int .i64 l.length)), (11, .val (.int .i64 i))], [.cells (.row 86 2) (part zf (tks tFct l 0) i)], frs tFct (l.take i)⟩) (fun i => i ≤ l.length) (fun i => l.length - i) ⟨0, Nat.zero_le _, ?_⟩ (fun i hi => ?_)
  · repeat' first
      | exact trivial | refine Weak.mk ?_ ?_ ?_ ?_ (Or.inl (Nat.le_of_ble_eq_true rfl)) | refine And.intro ?_ ?_ | with_reducible rfl | exact Nat.le_of_ble_eq_true rfl | refine AV.int_congr ?_ | refine AV.list_congr ?_ | refine AV.bsl_congr ?_ ?_ | (apply rfl)
    · rw [hfl, Int.toNat_natCast]
    · rw [hfl]
    · simp only [List.nil_append, List.cons_append, List.length_cons, List.length_nil, List.take_succ_cons, List.take_zero]
      rw [part_made (xs := tks tFct l 0) (sz := 2) rfl (by decide) (by rw [length_tks, hfl, Int.toNat_natCast])]; rfl
  by_cases hi' : i < l.length
  rotate_left
  · have hil : i = l.length := by omega
    subst hil
    have hall := part_all zf (tks tFct l 0)
    rw [length_tks] at hall
    rw [List.take_length, hall]
    repeat' first
      | (conv => whnf
         first | refine Need.mk rfl ?_ | refine Fork.decN ?_)
    conv => whnf
    refine FreezeD.flat (Freeze.mk (tks tFct l 0) _ 86 2 rfl rfl (length_tks _ _ _) (tks_sz tFct l 0) (tks_nr tFct l 0) ?_)
    repeat' first
      | (conv => whnf
         first | refine Final.mk rfl rfl)
  have hsz := fct_le hi'
  have hget := tks_get tFct 0 (fget hi')
  rw [Nat.zero_add] at hget
  repeat' first
    | (conv => whnf
       first | refine Need.mk rfl ?_ | refine Need.mk ⟨rfl, Nat.le_of_ble_eq_true rfl⟩ ?_ | refine Need.mk (Nat.le_of_ble_eq_true rfl) ?_ | refine Need.finN ?_ | refine Need.mk ?_ ?_ | refine Ix.mapN (fun _ => rfl) ?_ | refine Fork.decY ?_ | refine Round.mk ?_ | refine ACall.mkFct _ _ (pcopyFact.ret _ ?_) (by repeat' first | exact SeesL.nil | refine SeesL.cons ?_ ?_ | exact SeesB.of0 (Sees0.val _) | exact SeesB.of0 (Sees0.str _) | exact SeesB.of0 (Sees0.olds _ _) | exact SeesB.of0 (Sees0.old _) | exact SeesB.of0 (Sees0.oldagg _) | exact SeesB.of0 Sees0.nil | exact Sees0.val _ | exact Sees0.str _ | exact Sees0.olds _ _ | exact Sees0.old _ | exact Sees0.oldagg _ | exact Sees0.nil | exact SeesB.of0 (Sees0.any _) | assumption | exact sees_gv _ _ _ (by assumption) (by first | assumption | exact BoxIn.last _ _ | exact BoxIn.more (BoxIn.last _ _) _) | refine SeesB.agg ?_ | refine Sees0.agg ?_ | exact SeesB.of0 (Sees0.clo SeesL.nil SeesL.nil) | exact Sees0.clo SeesL.nil SeesL.nil | exact SeesB.of0 (Sees0.list rfl) | exact Sees0.list rfl) ?_)
  · rw [Int.toNat_natCast]; omega
  · rw [tFct.htk, part_len (sz := 2) rfl (tks_sz tFct l 0) (by rw [length_tks]; omega), length_tks, Int.toNat_natCast]
    exact ⟨rfl, by omega⟩
  · refine ⟨i + 1, by omega, ?_, by omega⟩
    refine ⟨?_, ?_, ?_, Nat.le_of_ble_eq_true rfl, Or.inr ⟨?_, part_inF 1 l (i + 1), trivial⟩⟩
    rotate_right
    · exact ⟨Nat.zero_lt_one, trivial, trivial, trivial, trivial⟩
    · repeat' first
        | exact trivial | refine And.intro ?_ ?_ | with_reducible rfl | refine AV.int_congr ?_ | refine AV.list_congr ?_ | refine AV.bsl_congr ?_ ?_
      rw [wrap64 (by omega) (by omega)]; rfl
    · have := part_set (z := zf) (sz := 2) rfl (tks_sz tFct l 0) hget
      exact congrArg (fun c => [ABox.cells (.row 86 2) c]) this
    · show frs tFct (l.take i) ++ tFct.fr (l.getD ((i : Int)).toNat default) = frs tFct (l.take (i + 1))
      rw [take_succ' default hi', frs_append, Int.toNat_natCast]
      simp [frs]
theorem pcopyFacts.own (l : List Fct) (h : tFcts.size l ≤ 1048576) : pcopyFacts.Own [.list none (facts l)] (fctsT l) := by
  have h1 := pcopyFacts.ret l h
  refine Ty.ownV tFcts (a := l) rfl rfl ?_
  rw [Nat.zero_add]; exact h1
end Go.Proofs.YtoindmahilbalaaGreat
namespace Go.Proofs.YtoindmahilbalaaGreat
open Abs
theorem pMatchFact.retB (p : VPattern) (f : Fct) (b : List VPair) (h1 : tPattern.size p ≤ 1048576) (h2 : tFct.size f ≤ 1048576) (h3 : tPairs.size b ≤ 1048576) :
    pMatchFact.RetN [.agg (oldL (tPattern.q p)), .agg (oldL (tFct.q f)), .list none (pairs b)] (.tup [.list (some 0) (pairs ((matM p f b).getD [])), .val (.bool (matM p f b).isSome)]) [(141, 2, ((matM p f b).getD []).length)] :=
  plain_retP (fun _ => rfl) (fun _ => rfl) tPair_canon ((matM_eq p f b).symm ▸ pMatchFact.own p f b h1 h2 h3)
set_option maxHeartbeats 4000000 in
theorem pBehind.own (t : VToken) (x : VCond) (l : List Fct) (hk : x.1 = 1) (hx : tCond.size x ≤ 1048576) (h : tFcts.size l ≤ 1048576) (hl24 : l.length ≤ 24) (hsz : tFcts.size t.1 ≤ 180 ∧ tPairs.size t.2 ≤ 108) :
    ptokensBehind.OwnN [.agg (oldL (tToken.q t)), .agg (oldL (tCond.q x)), .list none (facts l)] (tokT (hasF l x.2.1 t)) := by
  refine Own.of_irP (code := ptokensBehind.code) (rs := ptokensBehind.res) (K := ptokensBehind.keep) Tryz.func104 rfl (by kernel_rfl) (Nat.le_of_ble_eq_true rfl) (by kernel_rfl) (by kernel_rfl) ?_
  have hp := tCond_pat x
  rw [tFcts_size] at h
  repeat' first
    | contradiction
    | (conv => whnf
       first | refine Need.mk rfl ?_ | refine Fork.bne (fun _ => ?_) (fun _ => ?_))
  refine ALoop.mk (Nat × Fr × List (List AV)) (fun k => ⟨[(3, .bptr 0 0), (4, .bptr 1 0), (7, .list (some 0) k.2.2), (26, .list none (facts l)), (27, .val (.int .i64 l.length)), (28, .val (.int .i64 k.1))], [.cells .var (oldL (tToken.q t)), .cells .var (oldL (tCond.q x))], k.2.1⟩)
    (fun k => k.1 ≤ l.length ∧ ∃ us, TA k.2.1 (hasF (l.take k.1) x.2.1 t) k.2.2 us) (fun k => l.length - k.1) ⟨(0, [(90, 2, 0)], []), ⟨Nat.zero_le _, [], AccO.nil rfl⟩, ?_⟩ (fun k hk2 => ?_)
  · repeat' first
      | exact trivial | refine Weak.mk ?_ ?_ ?_ ?_ (Or.inl (Nat.le_of_ble_eq_true rfl)) | refine And.intro ?_ ?_ | with_reducible rfl | exact Nat.le_of_ble_eq_true rfl | refine fr1 ?_ | refine AV.int_congr ?_ | refine AV.list_congr ?_ | (apply rfl)
    simp
  obtain ⟨k, G, zs⟩ := k
  obtain ⟨hk2, vs, hB⟩ := hk2
  simp only at hk2 hB ⊢
  have hfl : (facts l).length = l.length := length_rows _ _
  have hBk := hB.hk
  have hBl := hB.hl
  have hle2 := hasF_le l x.2.1 t k
  by_cases hk' : k < l.length
  rotate_left
  · have e : k = l.length := by omega
    subst e
    rw [List.take_length] at hB
    repeat' first
      | (conv => whnf
         first | refine Need.mk rfl ?_ | refine Fork.decN ?_)
    exact hB.final
  have hf1 : tFct.size (l.getD k default) ≤ 1048576 := by have := fct_le hk'; omega
  have hm := pMatchFact.retB x.2.1 (l.getD k default) t.2 (by omega) hf1 (by omega)
  have hfs := tFcts_canon.ret rfl rfl (pcopyFacts.own t.1 (by omega))
  have hfc := pcopyFact.ret (l.getD k default) hf1
  cases hmm : matM x.2.1 (l.getD k default) t.2 with
  | none =>
    rw [hmm] at hm
    repeat' first
      | contradiction
      | (conv => whnf
         first | refine Need.mk rfl ?_ | refine Need.mk ⟨rfl, Nat.le_of_ble_eq_true rfl⟩ ?_ | refine Need.mk (Nat.le_of_ble_eq_true rfl) ?_ | refine Ix.mapN (fun _ => rfl) ?_ | refine Fork.decY ?_ | refine Fork.mk (fun _ => ?_) (fun _ => ?_) | refine Round.mk ?_ | refine ACall.mkTB tPair _ _ _ _ (hm) (by repeat' first | exact SeesL.nil | refine SeesL.cons ?_ ?_ | exact SeesB.of0 (Sees0.val _) | exact SeesB.of0 (Sees0.str _) | exact SeesB.of0 (Sees0.olds _ _) | exact SeesB.of0 (Sees0.old _) | exact SeesB.of0 (Sees0.oldagg _) | exact SeesB.of0 Sees0.nil | exact Sees0.val _ | exact Sees0.str _ | exact Sees0.olds _ _ | exact Sees0.old _ | exact Sees0.oldagg _ | exact Sees0.nil | exact SeesB.of0 (Sees0.any _) | assumption | exact sees_gv _ _ _ (by assumption) (by first | assumption | exact BoxIn.last _ _ | exact BoxIn.more (BoxIn.last _ _) _) | refine SeesB.agg ?_ | refine Sees0.agg ?_ | exact SeesB.of0 (Sees0.clo SeesL.nil SeesL.nil) | exact Sees0.clo SeesL.nil SeesL.nil | exact SeesB.of0 (Sees0.list rfl) | exact Sees0.list rfl) ?_)
    refine ⟨(k + 1, G ++ [(141, 2, 0)], zs), ⟨by simp only; omega, vs, by rw [hasF_no hk' hmm]; exact hB.grow _⟩, ?_, by simp only; omega⟩
    repeat' first
      | exact trivial | refine Weak.mk ?_ ?_ ?_ ?_ (Or.inr ⟨(by repeat' first | exact trivial | exact Nat.le_of_ble_eq_true rfl | refine And.intro ?_ ?_), (by repeat' first | exact trivial | exact Nat.le_of_ble_eq_true rfl | refine And.intro ?_ ?_)⟩) | refine And.intro ?_ ?_ | with_reducible rfl | exact Nat.le_of_ble_eq_true rfl | refine AV.int_congr ?_ | refine AV.list_congr ?_ | (apply rfl)
    rw [wrap64 (by omega) (by omega)]; rfl
  | some b =>
    rw [hmm] at hm
    obtain ⟨us', hS⟩ := tok_step hB t.1 (l.getD k default) b (c' := (hasF (l.take k) x.2.1 t).length + 1) rfl rfl rfl rfl rfl
    rw [← hasF_yes hk' hmm] at hS
    have hfsz : t.1.length ≤ 180 := by have := hsz.1; rw [tFcts_size] at this; omega
    have hG1 : (G ++ [(141, 2, ((some b).getD []).length)]).length = G.length + 1 := by simp
    have hG2 : (G ++ [(141, 2, ((some b).getD []).length)] ++ tFcts.fr t.1).length = G.length + 1 + (frs tFct t.1).length + 1 := by
      rw [show tFcts.fr t.1 = frs tFct t.1 ++ [(86, tFct.sz, t.1.length)] from rfl]; simp only [List.length_append, List.length_singleton]; omega
    obtain ⟨F3, hF3⟩ := head_cons (tok_head hB t.1 (l.getD k default) b)
    rw [hF3] at hS
    repeat' first
      | contradiction
      | (conv => whnf
         first | refine Need.mk rfl ?_ | refine Need.mk ⟨rfl, Nat.le_of_ble_eq_true rfl⟩ ?_ | refine Need.mk (Nat.le_of_ble_eq_true rfl) ?_ | refine Need.finN ?_ | refine Ix.mapN (fun _ => rfl) ?_ | refine Fork.decY ?_ | refine Fork.mk (fun _ => ?_) (fun _ => ?_) | refine Lit.read rfl ?_ | refine ACall.mkTB tPair _ _ _ _ (hm) (by repeat' first | exact SeesL.nil | refine SeesL.cons ?_ ?_ | exact SeesB.of0 (Sees0.val _) | exact SeesB.of0 (Sees0.str _) | exact SeesB.of0 (Sees0.olds _ _) | exact SeesB.of0 (Sees0.old _) | exact SeesB.of0 (Sees0.oldagg _) | exact SeesB.of0 Sees0.nil | exact Sees0.val _ | exact Sees0.str _ | exact Sees0.olds _ _ | exact Sees0.old _ | exact Sees0.oldagg _ | exact Sees0.nil | exact SeesB.of0 (Sees0.any _) | assumption | exact sees_gv _ _ _ (by assumption) (by first | assumption | exact BoxIn.last _ _ | exact BoxIn.more (BoxIn.last _ _) _) | refine SeesB.agg ?_ | refine Sees0.agg ?_ | exact SeesB.of0 (Sees0.clo SeesL.nil SeesL.nil) | exact Sees0.clo SeesL.nil SeesL.nil | exact SeesB.of0 (Sees0.list rfl) | exact Sees0.list rfl) ?_ | refine ACall.mkFcts _ _ (Ret.weak (hfs)) (by repeat' first | exact SeesL.nil | refine SeesL.cons ?_ ?_ | exact SeesB.of0 (Sees0.val _) | exact SeesB.of0 (Sees0.str _) | exact SeesB.of0 (Sees0.olds _ _) | exact SeesB.of0 (Sees0.old _) | exact SeesB.of0 (Sees0.oldagg _) | exact SeesB.of0 Sees0.nil | exact Sees0.val _ | exact Sees0.str _ | exact Sees0.olds _ _ | exact Sees0.old _ | exact Sees0.oldagg _ | exact Sees0.nil | exact SeesB.of0 (Sees0.any _) | assumption | exact sees_gv _ _ _ (by assumption) (by first | assumption | exact BoxIn.last _ _ | exact BoxIn.more (BoxIn.last _ _) _) | refine SeesB.agg ?_ | refine Sees0.agg ?_ | exact SeesB.of0 (Sees0.clo SeesL.nil SeesL.nil) | exact Sees0.clo SeesL.nil SeesL.nil | exact SeesB.of0 (Sees0.list rfl) | exact Sees0.list rfl) ?_ | refine ACall.mkFct _ _ (Ret.weak (hfc)) (by repeat' first | exact SeesL.nil | refine SeesL.cons ?_ ?_ | exact SeesB.of0 (Sees0.val _) | exact SeesB.of0 (Sees0.str _) | exact SeesB.of0 (Sees0.olds _ _) | exact SeesB.of0 (Sees0.old _) | exact SeesB.of0 (Sees0.oldagg _) | exact SeesB.of0 Sees0.nil | exact Sees0.val _ | exact Sees0.str _ | exact Sees0.olds _ _ | exact Sees0.old _ | exact Sees0.oldagg _ | exact Sees0.nil | exact SeesB.of0 (Sees0.any _) | assumption | exact sees_gv _ _ _ (by assumption) (by first | assumption | exact BoxIn.last _ _ | exact BoxIn.more (BoxIn.last _ _) _) | refine SeesB.agg ?_ | refine Sees0.agg ?_ | exact SeesB.of0 (Sees0.clo SeesL.nil SeesL.nil) | exact Sees0.clo SeesL.nil SeesL.nil | exact SeesB.of0 (Sees0.list rfl) | exact Sees0.list rfl) ?_)
    refine appK_to (F' := (90, 2, zs.length) :: F3) ?_ ?_ ?_ ?_ ?_
    · rw [length_tks, List.append_assoc, List.getElem?_append_right (by omega), List.getElem?_append_left (by simp [Ty.list, tFcts]), Nat.add_sub_cancel_left]
      show (frs tFct t.1 ++ [_])[_]? = _
      rw [List.getElem?_append_right (Nat.le_refl _), Nat.sub_self]; rfl
    · intro c hc; rw [List.mem_singleton.1 hc]; exact tFct.htk _ _
    · rw [List.length_singleton, length_tks]; omega
    · rw [← hF3, hG1, length_tks]; rfl
    rw [hG1, hG2]
    repeat' first
      | (conv => whnf
         first | refine Need.mk rfl ?_ | refine Need.mk ?_ ?_ | refine Round.mk ?_ | refine Lit.read rfl ?_)
    · intro c hc; rw [List.mem_singleton.1 hc]; rfl
    · simp only [List.length_singleton]; omega
    · refine ⟨(k + 1, _, _), ⟨by simp only; omega, us', hS⟩, ?_, by simp only; omega⟩
      repeat' first
        | exact trivial | refine Weak.mk ?_ ?_ ?_ ?_ (Or.inr ⟨(by repeat' first | exact trivial | exact Nat.le_of_ble_eq_true rfl | refine And.intro ?_ ?_), (by repeat' first | exact trivial | exact Nat.le_of_ble_eq_true rfl | refine And.intro ?_ ?_)⟩) | refine And.intro ?_ ?_ | with_reducible rfl | exact Nat.le_of_ble_eq_true rfl | refine AV.int_congr ?_ | refine AV.list_congr ?_ | (apply rfl)
      · rw [wrap64 (by omega) (by omega)]; rfl
      · rw [← hBl]; rfl
/-- a token that an absence or a test lets through is handed on -/
theorem pBehind.alias (t : VToken) (x : VCond) (l : List Fct) (hk : x.1 ≠ 1) (hx : tCond.size x ≤ 1048576) (h : tFcts.size l ≤ 1048576) (hsz : tFcts.size t.1 ≤ 180 ∧ tPairs.size t.2 ≤ 108) (us : List Value) (hus : us.length = 2) :
    ptokensBehind.RetN [.agg (tags us (oldL (tToken.q t))), .agg (oldL (tCond.q x)), .list none (facts l)] (.list (some 0) (if holdsCF x t.2 l then [tags us (oldL (tToken.q t))] else [])) [(90, 2, if holdsCF x t.2 l then 1 else 0)] := by
  obtain ⟨u, v, rfl⟩ : ∃ u v, us = [u, v] := by
    match us, hus with
    | [u, v], _ => exact ⟨u, v, rfl⟩
  refine ptokensBehind.of rfl ?_
  have hc := pHoldsCond.ret x t.2 l hx (by omega) h
  cases hh : holdsCF x t.2 l with
  | false =>
    rw [hh] at hc
    repeat' first
      | contradiction
      | (conv => whnf
         first | refine Need.mk rfl ?_ | refine Need.mk (Nat.le_of_ble_eq_true rfl) ?_ | refine Fork.bne (fun _ => ?_) (fun _ => ?_))
    refine ACall.scal _ _ hc rfl (SeesL.cons (SeesB.of0 (Sees0.oldagg (tCond.q x))) (SeesL.cons (SeesB.of0 (Sees0.tag (Sees0.olds _ _))) (SeesL.cons (SeesB.of0 (Sees0.olds _ _)) SeesL.nil))) ?_
    repeat' first
      | contradiction
      | (conv => whnf
         first | refine Fork.mk (fun _ => ?_) (fun _ => ?_) | refine Final.mk rfl rfl)
  | true =>
    rw [hh] at hc
    repeat' first
      | contradiction
      | (conv => whnf
         first | refine Need.mk rfl ?_ | refine Need.mk (Nat.le_of_ble_eq_true rfl) ?_ | refine Fork.bne (fun _ => ?_) (fun _ => ?_))
    refine ACall.scal _ _ hc rfl (SeesL.cons (SeesB.of0 (Sees0.oldagg (tCond.q x))) (SeesL.cons (SeesB.of0 (Sees0.tag (Sees0.olds _ _))) (SeesL.cons (SeesB.of0 (Sees0.olds _ _)) SeesL.nil))) ?_
    repeat' first
      | contradiction
      | (conv => whnf
         first | refine Need.mk rfl ?_ | refine Need.mk (Nat.le_of_ble_eq_true rfl) ?_ | refine Need.mk ?_ ?_ | refine Fork.mk (fun _ => ?_) (fun _ => ?_) | refine Lit.read rfl ?_ | refine Final.mk rfl rfl)
    · intro c hc; rw [List.mem_singleton.1 hc]; rfl
    · simp
theorem sees_erase : ∀ cs : List AV, SeesL Sees0 cs (mapTL noTok cs)
  | [] => .nil
  | c :: cs => .cons (Sees0.erase rfl) (sees_erase cs)
theorem tk_sees {α : Type} (T : Ty α) (a : α) (m : Nat) : SeesL Sees0 (T.tk a m) (oldL (T.q a)) := by
  rw [← T.hse a m]; exact sees_erase _
/-- a token handed on, or none -/
theorem subr_tok (n : Nat) (us : List Value) (cs zs : List AV) (h : us.length = cs.length) (hz : zs.length = cs.length) (b : Bool) : SubR n us cs (.list (some 0) (if b then [tags us zs] else [])) (.list (some (0 + n)) (if b then [cs] else [])) := by
  cases b with
  | false => exact .list (some 0) [] [] rfl (by simp) (by simp)
  | true =>
    refine .list (some 0) [tags us zs] [cs] rfl (fun i y z hy hz' => ?_) (fun i j y z a b hy hz' ha hb => ?_)
    · cases i with
      | zero => simp at hy hz'; subst hy; subst hz'; rw [tags, List.length_zipWith]; omega
      | succ i => simp at hy
    · cases i with
      | zero =>
        simp at hy hz'; subst hy; subst hz'
        rw [tags, List.getElem?_zipWith] at ha
        cases hu : us[j]? with
        | none => rw [hu] at ha; cases zs[j]? <;> cases ha
        | some u =>
          cases hzz : zs[j]? with
          | none => rw [hu, hzz] at ha; cases ha
          | some w => rw [hu, hzz] at ha; cases ha; exact .tag j u w b hu hb
      | succ i => simp at hy
theorem frs_at {α : Type} (T : Ty α) {src : List α} {i : Nat} {a : α} (hi : src[i]? = some a) {k : Nat} {y : Nat × Nat × Nat} (hk : (T.fr a)[k]? = some y) : (frs T src)[(frs T (src.take i)).length + k]? = some y := by
  have hlt := getElem?_lt hi
  have e : src = src.take i ++ a :: src.drop (i + 1) := by
    have h1 := List.drop_eq_getElem_cons hlt
    have h2 : src[i] = a := by rw [List.getElem?_eq_getElem hlt] at hi; exact Option.some.inj hi
    rw [h2] at h1; rw [← h1, List.take_append_drop]
  have h3 : frs T src = frs T (src.take i) ++ (T.fr a ++ frs T (src.drop (i + 1))) := by
    have h4 : frs T src = frs T (src.take i ++ a :: src.drop (i + 1)) := by rw [← e]
    rw [h4, frs_append]; rfl
  rw [h3, List.getElem?_append_right (by omega), Nat.add_sub_cancel_left, List.getElem?_append_left (getElem?_lt hk)]
  exact hk
theorem tConds_take (cs : List VCond) (n : Nat) : tConds.size (cs.take n) ≤ tConds.size cs := by
  rw [tConds_sz, tConds_sz, List.length_take]
  have := listSize_take_le tCond cs n
  omega
set_option maxHeartbeats 4000000 in
theorem ptokensOfConds.own (l : List Fct) (h : tFcts.size l ≤ 1048576) (hl : ∀ f ∈ l, isFactF f = true) (hl24 : l.length ≤ 24) : ∀ (n : Nat) (cs : List VCond), cs.length = n → n ≤ 4 → tConds.size cs ≤ 1048576 →
    ptokensOfConds.OwnN [.list none (rows tCond cs), .list none (facts l)] (tokT (toksF l cs)) := by
  intro n
  induction n with
  | zero =>
    intro cs hn _ _
    have e : cs = [] := List.eq_nil_of_length_eq_zero hn
    subst e
    refine Own.of_irP (code := ptokensOfConds.code) (rs := ptokensOfConds.res) (K := ptokensOfConds.keep) Tryz.func57 rfl (by kernel_rfl) (Nat.le_of_ble_eq_true rfl) (by kernel_rfl) (by kernel_rfl) ?_
    have hw : IntKind.i64.wrap ((([] : List VCond).length : Int) - 1) = -1 := wrap64 (by simp) (by simp)
    repeat' first
      | (conv => whnf
         first | refine Need.mk rfl ?_ | refine Fork.decY ?_)
    rw [toksF_nil]
    exact nil_acc.final
  | succ n ih =>
    intro cs hn hn4 hc
    refine Own.of_irP (code := ptokensOfConds.code) (rs := ptokensOfConds.res) (K := ptokensOfConds.keep) Tryz.func57 rfl (by kernel_rfl) (Nat.le_of_ble_eq_true rfl) (by kernel_rfl) (by kernel_rfl) ?_
    have hrl : (rows tCond cs).length = cs.length := length_rows _ _
    have hw : IntKind.i64.wrap (((rows tCond cs).length : Int) - 1) = (n : Int) := by rw [hrl, hn, wrap64 (by omega) (by omega)]; omega
    have hown := ih (cs.take n) (by rw [List.length_take]; omega) (by omega) (Nat.le_trans (tConds_take cs n) hc)
    have hret := tTokens_canon.ret rfl rfl hown
    have hw' : IntKind.i64.wrap ((cs.length : Int) - 1) = (n : Int) := by rw [← hrl]; exact hw
    repeat' first
      | (conv => whnf
         first | refine Need.mk rfl ?_ | refine Cut.map (fun _ => rfl) ?_ ?_ | refine Fork.decN ?_)
    · intro _; rw [hw]; omega
    conv => whnf
    refine ACall.mk_TokenS _ _ hret (SeesL.cons ?_ (SeesL.cons ?_ SeesL.nil)) ?_
    · rw [hw, Int.toNat_natCast]; exact @Sees0.olds _ _
    · exact @Sees0.olds _ _
    skip
    generalize hsrc : toksF l (cs.take n) = src
    have hg : ∀ t ∈ src, GoodT l 4 t := fun t ht => (toksF_good l cs n (by omega) t (hsrc ▸ ht)).mono (by omega)
    have hsl : src.length ≤ 331776 := hsrc ▸ toksF_len4 hl24 (by omega) n
    have hfin : toksF l cs = stepF l src (cs.getD n default) := by
      rw [← hsrc, ← toksF_succ l (by omega), List.take_of_length_le (by omega)]
    generalize hx0 : cs.getD n default = x at hfin
    have hxs : tCond.size x ≤ 1048576 := by
      have := tCond_le (l := cs) (i := n) (by omega)
      rw [hx0] at this; rw [tConds_sz] at hc; omega
    refine ALoop.mk (Nat × Fr × List (List AV)) (fun i => ⟨[(0, .list none (rows tCond cs)), (1, .list none (facts l)), (5, .val (.int .i64 n)), (6, .list (some 0) i.2.2), (21, .list (some (1 + (frs tToken src).length)) (tks tToken src 1)), (22, .val (.int .i64 src.length)), (23, .val (.int .i64 i.1))], [], i.2.1⟩)
      (fun i => i.1 ≤ src.length ∧ (∀ (j : Nat) y, (frs tToken src)[j]? = some y → i.2.1[1 + j]? = some y) ∧ 1 + (frs tToken src).length < i.2.1.length ∧ ∃ us, TA i.2.1 (stepF l (src.take i.1) x) i.2.2 us ∧ ∀ u ∈ us, u < 1 + (frs tToken (src.take i.1)).length ∨ 1 + (frs tToken src).length < u)
      (fun i => src.length - i.1) ⟨(0, (90, 2, 0) :: tTokens.fr src, []), ⟨Nat.zero_le _, fun j y hj => ?_, ?_, [], AccO.nil rfl, by simp⟩, ?_⟩ (fun i hi => ?_)
    · rw [Nat.add_comm, List.getElem?_cons_succ]
      show (frs tToken src ++ [_])[j]? = _
      rw [List.getElem?_append_left (getElem?_lt hj)]; exact hj
    · show 1 + _ < ((90, 2, 0) :: (frs tToken src ++ [(90, tToken.sz, src.length)])).length
      simp; omega
    · repeat' first
        | exact trivial | refine Weak.mk ?_ ?_ ?_ ?_ (Or.inl (Nat.le_of_ble_eq_true rfl)) | refine And.intro ?_ ?_ | with_reducible rfl | exact Nat.le_of_ble_eq_true rfl | refine AV.int_congr ?_ | refine AV.list_congr ?_ | (apply rfl)
      · exact hw
      · rw [length_tks]
    obtain ⟨i, F, ys⟩ := i
    obtain ⟨hi, hfr, hFl, us, hA, hus⟩ := hi
    simp only at hi hfr hFl hA hus ⊢
    have htl : (tks tToken src 1).length = src.length := length_tks _ _ _
    obtain ⟨F1, rfl⟩ := head_cons hA.hk
    rw [← hA.hl] at *
    by_cases hi' : i < src.length
    rotate_left
    · have e : i = src.length := by omega
      subst e
      rw [List.take_length, ← hfin] at hA
      repeat' first
        | (conv => whnf
           first | refine Need.mk rfl ?_ | refine Fork.decN ?_)
      exact hA.final
    have hgt := hg _ (tget hi')
    have hsz := goodT_size hl hgt (by omega)
    have hle := stepF_le hl24 (x := x) src i
    have hAl := hA.hl
    generalize ha0 : src.getD i default = a at hgt hsz
    have hai : src[i]? = some a := by rw [← ha0]; exact tToken_get hi'
    obtain ⟨m, hm⟩ : ∃ m, m = 1 + (frs tToken (src.take i)).length := ⟨_, rfl⟩
    have hget : (tks tToken src 1)[i]? = some (tToken.tk a m) := by rw [hm]; exact tks_get tToken 1 hai
    have hfs : frs tToken (src.take (i + 1)) = frs tToken (src.take i) ++ tToken.fr a := by
      rw [take_succ' default hi', ha0, frs_append]; simp [frs]
    have hfl : (frs tToken (src.take (i + 1))).length ≤ (frs tToken src).length := by
      have : src = src.take (i + 1) ++ src.drop (i + 1) := (List.take_append_drop _ _).symm
      have h2 : (frs tToken src).length = (frs tToken (src.take (i + 1)) ++ frs tToken (src.drop (i + 1))).length := by rw [← frs_append, ← this]
      rw [List.length_append] at h2; omega
    rw [hfs, List.length_append] at hfl
    have hstep := stepF_take (l := l) (x := x) hi'
    rw [ha0] at hstep
    have hx0' : cs.getD ((n : Nat) : Int).toNat default = x := by rw [Int.toNat_natCast]; exact hx0
    have hix : (0 : Int) ≤ (i : Int) ∧ (tks tToken src 1)[((i : Nat) : Int).toNat]? = some (tToken.tk a m) ∧ (tToken.tk a m).length = 2 := ⟨by omega, by rw [Int.toNat_natCast]; exact hget, rfl⟩
    by_cases hk : x.1 = 1
    · have hb := tTokens_canon.ret rfl rfl (pBehind.own a x l hk hxs h hl24 hsz)
      have hle2 := hasF_le l x.2.1 a l.length
      rw [List.take_length] at hle2
      repeat' first
        | (conv => whnf
           first | refine Need.mk rfl ?_ | refine Need.mk ⟨rfl, Nat.le_of_ble_eq_true rfl⟩ ?_ | refine Need.mk (Nat.le_of_ble_eq_true rfl) ?_ | refine Ix.mk _ (fun _ => hix) ?_ | refine Ix.mapN (fun _ => rfl) ?_ | refine Fork.decY ?_)
      conv => whnf
      refine ACall.mk_TokenS _ _ hb (SeesL.cons ?_ (SeesL.cons ?_ (SeesL.cons ?_ SeesL.nil))) ?_
      · exact @Sees0.aggs _ _ (tk_sees tToken a m)
      · rw [hx0']; exact @Sees0.oldagg (tCond.q x)
      · exact @Sees0.olds _ _
      repeat' first
        | (conv => whnf
           first | refine Need.mk rfl ?_ | refine Need.mk ?_ ?_ | refine Round.mk ?_)
      · exact tks_sz tToken _ _
      · rw [length_tks]; omega
      generalize hnew : hasF l x.2.1 a = new at hle2
      rw [nextF_has hk, hnew] at hstep
      generalize hG : (90, tToken.sz, ys.length) :: F1 = G at *
      have hGp : 0 < G.length := by rw [← hG]; simp
      obtain ⟨vs, o1, o2, o3⟩ := tksOwn tToken new (n := G.length) (F := G ++ tTokens.fr new) (fun q y hq => by
        rw [List.getElem?_append_right (by omega), Nat.add_sub_cancel_left, show tTokens.fr new = frs tToken new ++ [(90, tToken.sz, new.length)] from rfl, List.getElem?_append_left (getElem?_lt hq)]; exact hq)
      have hA2 := (hA.grow (tTokens.fr new)).app (m := ys.length + (tks tToken new G.length).length) new (tks tToken new G.length) vs (by rw [hAl, length_tks]) (length_tks _ _ _) (tks_sz _ _ _) o1 o2
        (fun j hj => ⟨by have := (o3 j hj).1; omega, fun hm => by have := hA.own.lt j hm; have := (o3 j hj).1; omega⟩)
      rw [← hstep] at hA2
      refine ⟨(i + 1, _, _), ⟨by simp only; omega, fun j y hj => ?_, ?_, us ++ vs, hA2, fun u hu => ?_⟩, ?_, by simp only; omega⟩
      · have := getElem?_lt hj
        rw [List.getElem?_set, if_neg (by omega), List.getElem?_append_left (by omega)]; exact hfr j y hj
      · rw [List.length_set, List.length_append]; omega
      · rw [hfs, List.length_append]
        rcases List.mem_append.1 hu with hu | hu
        · rcases hus u hu with h | h
          · exact .inl (by omega)
          · exact .inr h
        · have := (o3 u hu).1; exact .inr (by omega)
      · repeat' first
          | exact trivial | refine Weak.mk ?_ ?_ ?_ ?_ (Or.inr ⟨(by repeat' first | exact trivial | exact Nat.le_of_ble_eq_true rfl | refine And.intro ?_ ?_), (by repeat' first | exact trivial | exact Nat.le_of_ble_eq_true rfl | refine And.intro ?_ ?_)⟩) | refine And.intro ?_ ?_ | with_reducible rfl | exact Nat.le_of_ble_eq_true rfl | refine AV.int_congr ?_ | refine AV.list_congr ?_ | (apply rfl)
        rw [wrap64 (by omega) (by omega)]; rfl
    · have hb : ∀ us : List Value, us.length = 2 → _ := pBehind.alias a x l hk hxs h hsz
      repeat' first
        | (conv => whnf
           first | refine Need.mk rfl ?_ | refine Need.mk ⟨rfl, Nat.le_of_ble_eq_true rfl⟩ ?_ | refine Need.mk (Nat.le_of_ble_eq_true rfl) ?_ | refine Ix.mk _ (fun _ => hix) ?_ | refine Ix.mapN (fun _ => rfl) ?_ | refine Fork.decY ?_)
      conv => whnf
      refine ACall.alias [] [.agg (oldL (tCond.q (cs.getD ((n : Nat) : Int).toNat default))), .list none (facts l)] [] [.agg (oldL (tCond.q x)), .list none (facts l)] (tToken.tk a m) (oldL (tToken.q a)) _ (.list (some (0 + ((90, tToken.sz, ys.length) :: F1).length)) (if holdsCF x a.2 l then [tToken.tk a m] else [])) _ rfl (tToken.hnr a m) .nil (SeesL.cons ?_ (SeesL.cons ?_ SeesL.nil)) (tk_sees tToken a m) hb (fun us hu => subr_tok _ us (tToken.tk a m) (oldL (tToken.q a)) hu rfl _) ?_
      · rw [hx0']; exact @Sees0.oldagg (tCond.q x)
      · exact @Sees0.olds _ _
      cases hh : holdsCF x a.2 l with
      | false =>
        have hnx : nextF l x a = [] := by rw [nextF, if_neg hk, hh, if_neg (by simp)]
        rw [hnx] at hstep
        repeat' first
          | (conv => whnf
             first | refine Need.mk rfl ?_ | refine Need.mk ?_ ?_ | refine Round.mk ?_)
        · intro c hc; simp at hc
        · simp only [Bool.false_eq_true, if_false, List.length_nil]; omega
        generalize hG : (90, tToken.sz, ys.length) :: F1 = G at *
        have hGp : 0 < G.length := by rw [← hG]; simp
        have hA2 := (hA.grow [(90, 2, 0)]).app (m := ys.length + 0) [] [] [] (by rw [hAl]; rfl) rfl (by simp) .nil List.nodup_nil (by simp)
        rw [← hstep] at hA2
        refine ⟨(i + 1, _, _), ⟨by simp only; omega, fun j y hj => ?_, ?_, us ++ [], hA2, fun u hu => ?_⟩, ?_, by simp only; omega⟩
        · have := getElem?_lt hj
          rw [List.getElem?_set, if_neg (by omega), List.getElem?_append_left (by omega)]; exact hfr j y hj
        · rw [List.length_set, List.length_append]; omega
        · rw [hfs, List.length_append]
          rw [List.append_nil] at hu
          rcases hus u hu with h | h
          · exact .inl (by omega)
          · exact .inr h
        · repeat' first
            | exact trivial | refine Weak.mk ?_ ?_ ?_ ?_ (Or.inr ⟨(by repeat' first | exact trivial | exact Nat.le_of_ble_eq_true rfl | refine And.intro ?_ ?_), (by repeat' first | exact trivial | exact Nat.le_of_ble_eq_true rfl | refine And.intro ?_ ?_)⟩) | refine And.intro ?_ ?_ | with_reducible rfl | exact Nat.le_of_ble_eq_true rfl | refine AV.int_congr ?_ | refine AV.list_congr ?_ | (apply rfl)
          rw [wrap64 (by omega) (by omega)]; rfl
      | true =>
        have hnx : nextF l x a = [a] := by rw [nextF, if_neg hk, hh, if_pos rfl]
        rw [hnx] at hstep
        repeat' first
          | (conv => whnf
             first | refine Need.mk rfl ?_ | refine Need.mk ?_ ?_ | refine Round.mk ?_)
        · intro c hc; rw [if_pos rfl] at hc; rw [List.mem_singleton.1 hc]; rfl
        · simp only [if_true, List.length_singleton]; omega
        generalize hG : (90, tToken.sz, ys.length) :: F1 = G at *
        have hGp : 0 < G.length := by rw [← hG]; simp
        obtain ⟨vs, o1, o2, o3⟩ := tToken.tkOwn a (n := m) (F := G ++ [(90, 2, 1)]) (fun q y hq => by
          have h1 := hfr _ _ (frs_at tToken hai hq)
          have h2 := getElem?_lt hq
          rw [List.getElem?_append_left (by omega), hm, Nat.add_assoc]; exact h1)
        have hA2 := (hA.grow [(90, 2, 1)]).snoc (m := ys.length + 1) a (tToken.tk a m) vs (by rw [hAl]) o1 o2
          (fun j hj => ⟨by have := (o3 j hj).1; omega, fun hm' => by have := o3 j hj; rcases hus j hm' with h | h <;> omega⟩)
        rw [← hstep] at hA2
        refine ⟨(i + 1, _, _), ⟨by simp only; omega, fun j y hj => ?_, ?_, us ++ vs, hA2, fun u hu => ?_⟩, ?_, by simp only; omega⟩
        · have := getElem?_lt hj
          rw [List.getElem?_set, if_neg (by omega), List.getElem?_append_left (by omega)]; exact hfr j y hj
        · rw [List.length_set, List.length_append]; omega
        · rw [hfs, List.length_append]
          rcases List.mem_append.1 hu with hu | hu
          · rcases hus u hu with h | h
            · exact .inl (by omega)
            · exact .inr h
          · have := (o3 u hu).2; exact .inl (by omega)
        · repeat' first
            | exact trivial | refine Weak.mk ?_ ?_ ?_ ?_ (Or.inr ⟨(by repeat' first | exact trivial | exact Nat.le_of_ble_eq_true rfl | refine And.intro ?_ ?_), (by repeat' first | exact trivial | exact Nat.le_of_ble_eq_true rfl | refine And.intro ?_ ?_)⟩) | refine And.intro ?_ ?_ | with_reducible rfl | exact Nat.le_of_ble_eq_true rfl | refine AV.int_congr ?_ | refine AV.list_congr ?_ | (apply rfl)
          rw [wrap64 (by omega) (by omega)]; rfl
end Go.Proofs.YtoindmahilbalaaGreat
namespace Go.Proofs.YtoindmahilbalaaGreat
open Abs
def sIsAction.code : ACode := (.seq (.region false [s 1 (.box (t 0)), s 2 (.mv (.const (.bool false)))]) (.seq (.seq (.region false [s 3 (.fadr 0 (t 1)), s 4 (.load false 1 (t 3))]) (.block 0 (.seq (.seq (.region false [s 6 (.bin .eql (t 4) (.const (.int .i64 1))), s 5 (.mv (t 6))]) (.cond (t 5) .skip (.region false [s 7 (.bin .eql (t 4) (.const (.int .i64 2))), s 5 (.mv (t 7))]))) (.cond (t 5) (.seq (.region false [s 8 (.fadr 1 (t 1)), s 9 (.load true 2 (t 8)), s 10 (.call 122 [(t 9)]), s 2 (.mv (t 10))]) .ret) (.seq (.region false [s 12 (.bin .eql (t 4) (.const (.int .i64 3))), s 11 (.mv (t 12))]) (.cond (t 11) (.seq (.region false [s 13 (.fadr 1 (t 1)), s 14 (.fadr 0 (t 13)), s 15 (.load false 1 (t 14)), s 16 (.bin .eql (t 15) (.const (.string (.mk #[])))), s 17 (.mv (t 16)), g 17 true 18 (.fadr 1 (t 1)), g 17 true 19 (.fadr 1 (t 18)), g 17 true 20 (.load false 1 (t 19)), g 17 true 21 (.len false (t 20)), g 17 true 22 (.bin .eql (t 21) (.const (.int .i64 0))), s 23 (.and (t 17) (t 22)), s 2 (.mv (t 23))]) .ret) .skip)))))) (.seq (.region false [s 2 (.mv (.const (.bool false)))]) .ret)))
def sIsAction.keep : List Nat := [0, 1, 2, 4, 5]
def sIsAction.res : List RRes := [.tmp 2]
theorem sIsAction.of {mo : Bool} {args : List AV} {r : AV} {frs : Fr} (hn : Nat.ble args.length Tryz.f88.ntmps = true) (h : aCode (Kn mo Tryz.prog) sIsAction.keep 0 sIsAction.code (doneK sIsAction.res r frs) ⟨argEnv 0 args, [], []⟩) : Abs.Ret mo Tryz.prog 88 args r frs :=
  Abs.Ret.of_ir Tryz.func88 rfl (by kernel_rfl) (Nat.le_of_ble_eq_true hn) (by kernel_rfl) (by kernel_rfl) h
abbrev sIsAction.Ret (args : List AV) (r : AV) (frs : Fr) : Prop := Abs.Ret true Tryz.prog 88 args r frs
def pIsAction.code : ACode := (.seq (.region false [s 1 (.box (t 0)), s 2 (.mv (.const (.bool false)))]) (.seq (.seq (.region false [s 3 (.fadr 0 (t 1)), s 4 (.load false 1 (t 3))]) (.block 0 (.seq (.seq (.region false [s 6 (.bin .eql (t 4) (.const (.int .i64 1))), s 5 (.mv (t 6))]) (.cond (t 5) .skip (.region false [s 7 (.bin .eql (t 4) (.const (.int .i64 2))), s 5 (.mv (t 7))]))) (.cond (t 5) (.seq (.region false [s 8 (.fadr 1 (t 1)), s 9 (.load true 2 (t 8)), s 10 (.call 168 [(t 9)]), s 2 (.mv (t 10))]) .ret) (.seq (.region false [s 12 (.bin .eql (t 4) (.const (.int .i64 3))), s 11 (.mv (t 12))]) (.cond (t 11) (.seq (.region false [s 13 (.fadr 1 (t 1)), s 14 (.load true 2 (t 13)), s 15 (.build [(.string (.mk (.mk []))), (.slice none 0 0)] [] []), s 16 (.call 170 [(t 14), (t 15)]), s 2 (.mv (t 16))]) .ret) .skip)))))) (.seq (.region false [s 2 (.mv (.const (.bool false)))]) .ret)))
def pIsAction.keep : List Nat := [0, 1, 2, 4, 5]
def pIsAction.res : List RRes := [.tmp 2]
theorem pIsAction.of {mo : Bool} {args : List AV} {r : AV} {frs : Fr} (hn : Nat.ble args.length Tryz.f138.ntmps = true) (h : aCode (Kn mo Tryz.prog) pIsAction.keep 0 pIsAction.code (doneK pIsAction.res r frs) ⟨argEnv 0 args, [], []⟩) : Abs.Ret mo Tryz.prog 138 args r frs :=
  Abs.Ret.of_ir Tryz.func138 rfl (by kernel_rfl) (Nat.le_of_ble_eq_true hn) (by kernel_rfl) (by kernel_rfl) h
abbrev pIsAction.Ret (args : List AV) (r : AV) (frs : Fr) : Prop := Abs.Ret true Tryz.prog 138 args r frs
def sBoundVars.code : ACode := (.seq (.region false [s 2 (.box (t 0)), s 4 (.mv (.const (.slice none 0 0)))]) (.seq (.region false [s 9 (.bslice 9 1 true []), s 5 (.mv (t 9))]) (.seq (.seq (.region false [s 6 (.mv (.const (.int .i64 0)))]) (.block 0 (.loop (.seq (.seq (.region false [s 10 (.mv (t 6)), s 11 (.fadr 2 (t 2)), s 12 (.load false 1 (t 11)), s 13 (.len false (t 12)), s 14 (.bin .lss (t 10) (t 13)), s 15 (.mv (t 14)), g 15 true 16 (.mv (t 6)), g 15 true 17 (.mv (t 1)), g 15 true 18 (.bin .lss (t 16) (t 17)), s 19 (.and (t 15) (t 18))]) (.cond (t 19) .skip (.exit 0))) (.seq (.block 1 (.seq (.region false [s 22 (.fadr 2 (t 2)), s 23 (.load false 1 (t 22)), s 24 (.mv (t 6)), s 25 (.iadr 5 (t 23) (t 24)), s 26 (.fadr 0 (t 25)), s 27 (.load false 1 (t 26)), s 28 (.bin .eql (t 27) (.const (.int .i64 1)))]) (.cond (t 28) (.seq (.region false [s 29 (.fadr 2 (t 2)), s 30 (.load false 1 (t 29)), s 31 (.mv (t 6)), s 32 (.iadr 5 (t 30) (t 31)), s 33 (.fadr 1 (t 32)), s 34 (.load true 2 (t 33)), s 35 (.call 89 [(t 34)]), s 7 (.mv (t 35))]) (.seq (.region false [s 8 (.mv (.const (.int .i64 0)))]) (.block 2 (.loop (.seq (.seq (.region false [s 36 (.mv (t 8)), s 37 (.mv (t 7)), s 38 (.len false (t 37)), s 39 (.bin .lss (t 36) (t 38))]) (.cond (t 39) .skip (.exit 2))) (.seq (.block 3 (.region false [s 42 (.mv (t 5)), s 43 (.mv (t 7)), s 44 (.mv (t 8)), s 45 (.iadr 1 (t 43) (t 44)), s 46 (.load false 1 (t 45)), s 47 (.call 121 [(t 42), (t 46)]), s 5 (.mv (t 47))])) (.region false [s 40 (.mv (t 8)), s 41 (.bin .add (t 40) (.const (.int .i64 1))), s 8 (.mv (t 41))]))))))) .skip))) (.region false [s 20 (.mv (t 6)), s 21 (.bin .add (t 20) (.const (.int .i64 1))), s 6 (.mv (t 21))])))))) (.seq (.region false [s 48 (.mv (t 5)), s 4 (.mv (t 48))]) .ret))))
def sBoundVars.keep : List Nat := [0, 1, 2, 4, 5, 6, 7, 8]
def sBoundVars.res : List RRes := [.tmp 4]
abbrev sBoundVars.Own (args : List AV) (x : Tr) : Prop := Abs.Own true Tryz.prog 82 args x
def pBoundVars.code : ACode := (.seq (.region false [s 2 (.box (t 0)), s 4 (.mv (.const (.slice none 0 0)))]) (.seq (.region false [s 8 (.bslice 9 1 true []), s 5 (.mv (t 8))]) (.seq (.seq (.region false [s 9 (.fadr 2 (t 2)), s 10 (.load false 1 (t 9)), s 11 (.mv (t 1)), s 12 (.mm true (t 11) (.const (.int .i64 0))), s 13 (.fadr 2 (t 2)), s 14 (.load false 1 (t 13)), s 15 (.len false (t 14)), s 16 (.mm false (t 12) (t 15)), s 17 (.slice false 5 (t 10) none (some (t 16))), s 18 (.len false (t 17)), s 19 (.mv (.const (.int .i64 0)))]) (.block 0 (.loop (.seq (.region false [s 20 (.bin .lss (t 19) (t 18))]) (.seq (.cond (t 20) .skip (.exit 0)) (.seq (.block 1 (.seq (.region false [s 21 (.iadr 5 (t 17) (t 19)), s 22 (.load true 5 (t 21)), s 7 (.alloc [(.int .i64 (.ofNat 0)), (.string (.mk (.mk []))), (.slice none 0 0), (.string (.mk (.mk []))), (.string (.mk (.mk [])))]), ⟨none, none, (.store 5 (t 7) (t 22))⟩]) (.seq (.region false [s 23 (.fadr 0 (t 7)), s 24 (.load false 1 (t 23)), s 25 (.bin .eql (t 24) (.const (.int .i64 1)))]) (.cond (t 25) (.region false [s 26 (.mv (t 5)), s 27 (.fadr 1 (t 7)), s 28 (.load true 2 (t 27)), s 29 (.call 143 [(t 28)]), s 30 (.append 9 1 16 (t 26) (t 29)), s 5 (.mv (t 30))]) .skip)))) (.region false [s 31 (.bin .add (t 19) (.const (.int .i64 1))), s 19 (.mv (t 31))]))))))) (.seq (.region false [s 32 (.mv (t 5)), s 33 (.call 145 [(t 32)]), s 4 (.mv (t 33))]) .ret))))
def pBoundVars.keep : List Nat := [0, 1, 2, 4, 5, 7, 17, 18, 19, 20]
def pBoundVars.res : List RRes := [.tmp 4]
theorem pBoundVars.of {mo : Bool} {args : List AV} {r : AV} {frs : Fr} (hn : Nat.ble args.length Tryz.f140.ntmps = true) (h : aCode (Kn mo Tryz.prog) pBoundVars.keep 0 pBoundVars.code (doneK pBoundVars.res r frs) ⟨argEnv 0 args, [], []⟩) : Abs.Ret mo Tryz.prog 140 args r frs :=
  Abs.Ret.of_ir Tryz.func140 rfl (by kernel_rfl) (Nat.le_of_ble_eq_true hn) (by kernel_rfl) (by kernel_rfl) h
abbrev pBoundVars.Own (args : List AV) (x : Tr) : Prop := Abs.Own true Tryz.prog 140 args x
abbrev pBoundVars.Ret (args : List AV) (r : AV) (frs : Fr) : Prop := Abs.Ret true Tryz.prog 140 args r frs
def sRuleVars.code : ACode := (.seq (.region false [s 1 (.box (t 0)), s 2 (.mv (.const (.slice none 0 0)))]) (.seq (.region false [s 10 (.bslice 9 1 true []), s 3 (.mv (t 10))]) (.seq (.seq (.region false [s 4 (.mv (.const (.int .i64 0)))]) (.block 0 (.loop (.seq (.seq (.region false [s 11 (.mv (t 4)), s 12 (.fadr 2 (t 1)), s 13 (.load false 1 (t 12)), s 14 (.len false (t 13)), s 15 (.bin .lss (t 11) (t 14))]) (.cond (t 15) .skip (.exit 0))) (.seq (.block 1 (.seq (.region false [s 18 (.fadr 2 (t 1)), s 19 (.load false 1 (t 18)), s 20 (.mv (t 4)), s 21 (.iadr 5 (t 19) (t 20)), s 22 (.load true 5 (t 21)), s 23 (.call 84 [(t 22)]), s 5 (.mv (t 23))]) (.seq (.region false [s 6 (.mv (.const (.int .i64 0)))]) (.block 2 (.loop (.seq (.seq (.region false [s 24 (.mv (t 6)), s 25 (.mv (t 5)), s 26 (.len false (t 25)), s 27 (.bin .lss (t 24) (t 26))]) (.cond (t 27) .skip (.exit 2))) (.seq (.block 3 (.region false [s 30 (.mv (t 3)), s 31 (.mv (t 5)), s 32 (.mv (t 6)), s 33 (.iadr 1 (t 31) (t 32)), s 34 (.load false 1 (t 33)), s 35 (.call 121 [(t 30), (t 34)]), s 3 (.mv (t 35))])) (.region false [s 28 (.mv (t 6)), s 29 (.bin .add (t 28) (.const (.int .i64 1))), s 6 (.mv (t 29))])))))))) (.region false [s 16 (.mv (t 4)), s 17 (.bin .add (t 16) (.const (.int .i64 1))), s 4 (.mv (t 17))])))))) (.seq (.seq (.region false [s 7 (.mv (.const (.int .i64 0)))]) (.block 4 (.loop (.seq (.seq (.region false [s 36 (.mv (t 7)), s 37 (.fadr 3 (t 1)), s 38 (.load false 1 (t 37)), s 39 (.len false (t 38)), s 40 (.bin .lss (t 36) (t 39))]) (.cond (t 40) .skip (.exit 4))) (.seq (.block 5 (.seq (.region false [s 43 (.fadr 3 (t 1)), s 44 (.load false 1 (t 43)), s 45 (.mv (t 7)), s 46 (.iadr 3 (t 44) (t 45)), s 47 (.fadr 1 (t 46)), s 48 (.load true 2 (t 47)), s 49 (.call 89 [(t 48)]), s 8 (.mv (t 49))]) (.seq (.region false [s 9 (.mv (.const (.int .i64 0)))]) (.block 6 (.loop (.seq (.seq (.region false [s 50 (.mv (t 9)), s 51 (.mv (t 8)), s 52 (.len false (t 51)), s 53 (.bin .lss (t 50) (t 52))]) (.cond (t 53) .skip (.exit 6))) (.seq (.block 7 (.region false [s 56 (.mv (t 3)), s 57 (.mv (t 8)), s 58 (.mv (t 9)), s 59 (.iadr 1 (t 57) (t 58)), s 60 (.load false 1 (t 59)), s 61 (.call 121 [(t 56), (t 60)]), s 3 (.mv (t 61))])) (.region false [s 54 (.mv (t 9)), s 55 (.bin .add (t 54) (.const (.int .i64 1))), s 9 (.mv (t 55))])))))))) (.region false [s 41 (.mv (t 7)), s 42 (.bin .add (t 41) (.const (.int .i64 1))), s 7 (.mv (t 42))])))))) (.seq (.region false [s 62 (.mv (t 3)), s 2 (.mv (t 62))]) .ret)))))
def sRuleVars.keep : List Nat := [0, 1, 2, 3, 4, 5, 6, 7, 8, 9]
def sRuleVars.res : List RRes := [.tmp 2]
abbrev sRuleVars.Own (args : List AV) (x : Tr) : Prop := Abs.Own true Tryz.prog 90 args x
def pRuleVars.code : ACode := (.seq (.region false [s 1 (.box (t 0)), s 2 (.mv (.const (.slice none 0 0)))]) (.seq (.region false [s 6 (.fadr 2 (t 1)), s 7 (.load false 1 (t 6)), s 8 (.call 101 [(t 7)]), s 3 (.mv (t 8))]) (.seq (.seq (.region false [s 9 (.fadr 3 (t 1)), s 10 (.load false 1 (t 9)), s 11 (.len false (t 10)), s 12 (.mv (.const (.int .i64 0)))]) (.block 0 (.loop (.seq (.region false [s 13 (.bin .lss (t 12) (t 11))]) (.seq (.cond (t 13) .skip (.exit 0)) (.seq (.block 1 (.seq (.region false [s 14 (.iadr 3 (t 10) (t 12)), s 15 (.load true 3 (t 14)), s 5 (.alloc [(.int .i64 (.ofNat 0)), (.string (.mk (.mk []))), (.slice none 0 0)]), ⟨none, none, (.store 3 (t 5) (t 15))⟩]) (.region false [s 16 (.mv (t 3)), s 17 (.fadr 1 (t 5)), s 18 (.load true 2 (t 17)), s 19 (.call 143 [(t 18)]), s 20 (.append 9 1 16 (t 16) (t 19)), s 3 (.mv (t 20))]))) (.region false [s 21 (.bin .add (t 12) (.const (.int .i64 1))), s 12 (.mv (t 21))]))))))) (.seq (.region false [s 22 (.mv (t 3)), s 23 (.call 145 [(t 22)]), s 2 (.mv (t 23))]) .ret))))
def pRuleVars.keep : List Nat := [0, 1, 2, 3, 5, 10, 11, 12, 13]
def pRuleVars.res : List RRes := [.tmp 2]
theorem pRuleVars.of {mo : Bool} {args : List AV} {r : AV} {frs : Fr} (hn : Nat.ble args.length Tryz.f171.ntmps = true) (h : aCode (Kn mo Tryz.prog) pRuleVars.keep 0 pRuleVars.code (doneK pRuleVars.res r frs) ⟨argEnv 0 args, [], []⟩) : Abs.Ret mo Tryz.prog 171 args r frs :=
  Abs.Ret.of_ir Tryz.func171 rfl (by kernel_rfl) (Nat.le_of_ble_eq_true hn) (by kernel_rfl) (by kernel_rfl) h
abbrev pRuleVars.Own (args : List AV) (x : Tr) : Prop := Abs.Own true Tryz.prog 171 args x
abbrev pRuleVars.Ret (args : List AV) (r : AV) (frs : Fr) : Prop := Abs.Ret true Tryz.prog 171 args r frs
def pvarsOfConds.code : ACode := (.seq (.region false [s 2 (.mv (.const (.slice none 0 0)))]) (.seq (.region false [s 6 (.bslice 9 1 true []), s 3 (.mv (t 6))]) (.seq (.seq (.region false [s 7 (.mv (t 0)), s 8 (.len false (t 7)), s 9 (.mv (.const (.int .i64 0)))]) (.block 0 (.loop (.seq (.region false [s 10 (.bin .lss (t 9) (t 8))]) (.seq (.cond (t 10) .skip (.exit 0)) (.seq (.block 1 (.seq (.region false [s 11 (.iadr 5 (t 7) (t 9)), s 12 (.load true 5 (t 11)), s 5 (.alloc [(.int .i64 (.ofNat 0)), (.string (.mk (.mk []))), (.slice none 0 0), (.string (.mk (.mk []))), (.string (.mk (.mk [])))]), ⟨none, none, (.store 5 (t 5) (t 12))⟩]) (.region false [s 13 (.mv (t 3)), s 14 (.load true 5 (t 5)), s 15 (.call 144 [(t 14)]), s 16 (.append 9 1 16 (t 13) (t 15)), s 3 (.mv (t 16))]))) (.region false [s 17 (.bin .add (t 9) (.const (.int .i64 1))), s 9 (.mv (t 17))]))))))) (.seq (.region false [s 18 (.mv (t 3)), s 19 (.call 145 [(t 18)]), s 2 (.mv (t 19))]) .ret))))
def pvarsOfConds.keep : List Nat := [0, 2, 3, 5, 7, 8, 9, 10]
def pvarsOfConds.res : List RRes := [.tmp 2]
theorem pvarsOfConds.of {mo : Bool} {args : List AV} {r : AV} {frs : Fr} (hn : Nat.ble args.length Tryz.f101.ntmps = true) (h : aCode (Kn mo Tryz.prog) pvarsOfConds.keep 0 pvarsOfConds.code (doneK pvarsOfConds.res r frs) ⟨argEnv 0 args, [], []⟩) : Abs.Ret mo Tryz.prog 101 args r frs :=
  Abs.Ret.of_ir Tryz.func101 rfl (by kernel_rfl) (Nat.le_of_ble_eq_true hn) (by kernel_rfl) (by kernel_rfl) h
abbrev pvarsOfConds.Own (args : List AV) (x : Tr) : Prop := Abs.Own true Tryz.prog 101 args x
abbrev pvarsOfConds.Ret (args : List AV) (r : AV) (frs : Fr) : Prop := Abs.Ret true Tryz.prog 101 args r frs
def sIsRule.code : ACode := (.seq (.region false [s 1 (.box (t 0)), s 2 (.mv (.const (.bool false)))]) (.seq (.seq (.region false [s 13 (.fadr 0 (t 1)), s 14 (.load false 1 (t 13)), s 15 (.call 81 [(t 14)]), s 16 (.not (t 15)), s 17 (.mv (t 16)), g 17 false 18 (.fadr 1 (t 1)), g 17 false 19 (.load false 1 (t 18)), g 17 false 20 (.call 50 [(t 19), (.const (.int .i64 0)), (.const (.int .i64 9))]), g 17 false 21 (.not (t 20)), s 22 (.or (t 17) (t 21)), s 23 (.mv (t 22)), g 23 false 24 (.fadr 2 (t 1)), g 23 false 25 (.load false 1 (t 24)), g 23 false 26 (.len false (t 25)), g 23 false 27 (.call 50 [(t 26), (.const (.int .i64 1)), (.const (.int .i64 4))]), g 23 false 28 (.not (t 27)), s 29 (.or (t 23) (t 28)), s 30 (.mv (t 29)), g 30 false 31 (.fadr 3 (t 1)), g 30 false 32 (.load false 1 (t 31)), g 30 false 33 (.len false (t 32)), g 30 false 34 (.call 50 [(t 33), (.const (.int .i64 1)), (.const (.int .i64 2))]), g 30 false 35 (.not (t 34)), s 36 (.or (t 30) (t 35))]) (.cond (t 36) (.seq (.region false [s 2 (.mv (.const (.bool false)))]) .ret) .skip)) (.seq (.region false [s 37 (.load true 4 (t 1)), s 38 (.fadr 2 (t 1)), s 39 (.load false 1 (t 38)), s 40 (.len false (t 39)), s 41 (.call 82 [(t 37), (t 40)]), s 3 (.mv (t 41))]) (.seq (.seq (.region false [s 4 (.mv (.const (.int .i64 0)))]) (.block 0 (.loop (.seq (.seq (.region false [s 42 (.mv (t 4)), s 43 (.fadr 2 (t 1)), s 44 (.load false 1 (t 43)), s 45 (.len false (t 44)), s 46 (.bin .lss (t 42) (t 45))]) (.cond (t 46) .skip (.exit 0))) (.seq (.block 1 (.seq (.region false [s 49 (.fadr 2 (t 1)), s 50 (.load false 1 (t 49)), s 51 (.mv (t 4)), s 52 (.iadr 5 (t 50) (t 51)), s 53 (.load true 5 (t 52)), s 5 (.alloc [(.int .i64 (.ofNat 0)), (.string (.mk (.mk []))), (.slice none 0 0), (.string (.mk (.mk []))), (.string (.mk (.mk [])))]), ⟨none, none, (.store 5 (t 5) (t 53))⟩]) (.seq (.seq (.region false [s 54 (.load true 5 (t 5)), s 55 (.call 83 [(t 54)]), s 56 (.not (t 55)), s 57 (.mv (t 56)), g 57 false 58 (.mv (t 4)), g 57 false 59 (.bin .eql (t 58) (.const (.int .i64 0))), g 57 false 60 (.mv (t 59)), g 60 true 61 (.fadr 0 (t 5)), g 60 true 62 (.load false 1 (t 61)), g 60 true 63 (.bin .neq (t 62) (.const (.int .i64 1))), g 57 false 64 (.and (t 60) (t 63)), s 65 (.or (t 57) (t 64))]) (.cond (t 65) (.seq (.region false [s 2 (.mv (.const (.bool false)))]) .ret) .skip)) (.seq (.region false [s 66 (.load true 4 (t 1)), s 67 (.mv (t 4)), s 68 (.call 82 [(t 66), (t 67)]), s 6 (.mv (t 68))]) (.seq (.region false [s 69 (.load true 5 (t 5)), s 70 (.call 84 [(t 69)]), s 7 (.mv (t 70))]) (.seq (.region false [s 8 (.mv (.const (.int .i64 0)))]) (.block 2 (.loop (.seq (.seq (.region false [s 71 (.mv (t 8)), s 72 (.mv (t 7)), s 73 (.len false (t 72)), s 74 (.bin .lss (t 71) (t 73))]) (.cond (t 74) .skip (.exit 2))) (.seq (.block 3 (.seq (.region false [s 77 (.mv (t 6)), s 78 (.mv (t 7)), s 79 (.mv (t 8)), s 80 (.iadr 1 (t 78) (t 79)), s 81 (.load false 1 (t 80)), s 82 (.call 85 [(t 77), (t 81)]), s 9 (.mv (t 82))]) (.seq (.region true [s 83 (.load true 5 (t 5)), s 84 (.call 86 [(t 83)]), s 85 (.mv (t 84)), g 85 true 86 (.mv (t 9)), g 85 true 87 (.not (t 86)), s 88 (.and (t 85) (t 87)), s 89 (.mv (t 88)), g 89 false 90 (.fadr 0 (t 5)), g 89 false 91 (.load false 1 (t 90)), g 89 false 92 (.bin .eql (t 91) (.const (.int .i64 2))), g 89 false 93 (.mv (t 92)), g 93 true 94 (.mv (t 9)), g 93 true 95 (.not (t 94)), g 89 false 96 (.and (t 93) (t 95)), g 89 false 97 (.mv (t 96)), g 97 true 98 (.load true 4 (t 1)), g 97 true 99 (.mv (t 4)), g 97 true 100 (.mv (t 7)), g 97 true 101 (.mv (t 8)), g 97 true 102 (.iadr 1 (t 100) (t 101)), g 97 true 103 (.load false 1 (t 102)), g 97 true 104 (.call 87 [(t 98), (t 99), (t 103)]), g 89 false 105 (.and (t 97) (t 104)), s 106 (.or (t 89) (t 105))]) (.cond (t 106) (.seq (.region false [s 2 (.mv (.const (.bool false)))]) .ret) .skip)))) (.region false [s 75 (.mv (t 8)), s 76 (.bin .add (t 75) (.const (.int .i64 1))), s 8 (.mv (t 76))]))))))))))) (.region false [s 47 (.mv (t 4)), s 48 (.bin .add (t 47) (.const (.int .i64 1))), s 4 (.mv (t 48))])))))) (.seq (.seq (.region false [s 10 (.mv (.const (.int .i64 0)))]) (.block 4 (.loop (.seq (.seq (.region false [s 107 (.mv (t 10)), s 108 (.fadr 3 (t 1)), s 109 (.load false 1 (t 108)), s 110 (.len false (t 109)), s 111 (.bin .lss (t 107) (t 110))]) (.cond (t 111) .skip (.exit 4))) (.seq (.block 5 (.seq (.seq (.region false [s 114 (.fadr 3 (t 1)), s 115 (.load false 1 (t 114)), s 116 (.mv (t 10)), s 117 (.iadr 3 (t 115) (t 116)), s 118 (.load true 3 (t 117)), s 119 (.call 88 [(t 118)]), s 120 (.not (t 119))]) (.cond (t 120) (.seq (.region false [s 2 (.mv (.const (.bool false)))]) .ret) .skip)) (.seq (.region false [s 121 (.fadr 3 (t 1)), s 122 (.load false 1 (t 121)), s 123 (.mv (t 10)), s 124 (.iadr 3 (t 122) (t 123)), s 125 (.fadr 1 (t 124)), s 126 (.load true 2 (t 125)), s 127 (.call 89 [(t 126)]), s 11 (.mv (t 127))]) (.seq (.region false [s 12 (.mv (.const (.int .i64 0)))]) (.block 6 (.loop (.seq (.seq (.region false [s 128 (.mv (t 12)), s 129 (.mv (t 11)), s 130 (.len false (t 129)), s 131 (.bin .lss (t 128) (t 130))]) (.cond (t 131) .skip (.exit 6))) (.seq (.block 7 (.seq (.region false [s 134 (.mv (t 3)), s 135 (.mv (t 11)), s 136 (.mv (t 12)), s 137 (.iadr 1 (t 135) (t 136)), s 138 (.load false 1 (t 137)), s 139 (.call 85 [(t 134), (t 138)]), s 140 (.not (t 139))]) (.cond (t 140) (.seq (.region false [s 2 (.mv (.const (.bool false)))]) .ret) .skip))) (.region false [s 132 (.mv (t 12)), s 133 (.bin .add (t 132) (.const (.int .i64 1))), s 12 (.mv (t 133))]))))))))) (.region false [s 112 (.mv (t 10)), s 113 (.bin .add (t 112) (.const (.int .i64 1))), s 10 (.mv (t 113))])))))) (.seq (.region false [s 141 (.load true 4 (t 1)), s 142 (.call 90 [(t 141)]), s 143 (.len false (t 142)), s 144 (.bin .leq (t 143) (.const (.int .i64 6))), s 2 (.mv (t 144))]) .ret))))))
def sIsRule.keep : List Nat := [0, 1, 2, 3, 4, 5, 6, 7, 8, 9, 10, 11, 12]
def sIsRule.res : List RRes := [.tmp 2]
theorem sIsRule.of {mo : Bool} {args : List AV} {r : AV} {frs : Fr} (hn : Nat.ble args.length Tryz.f48.ntmps = true) (h : aCode (Kn mo Tryz.prog) sIsRule.keep 0 sIsRule.code (doneK sIsRule.res r frs) ⟨argEnv 0 args, [], []⟩) : Abs.Ret mo Tryz.prog 48 args r frs :=
  Abs.Ret.of_ir Tryz.func48 rfl (by kernel_rfl) (Nat.le_of_ble_eq_true hn) (by kernel_rfl) (by kernel_rfl) h
abbrev sIsRule.Ret (args : List AV) (r : AV) (frs : Fr) : Prop := Abs.Ret true Tryz.prog 48 args r frs
def pIsRule.code : ACode := (.seq (.region false [s 1 (.box (t 0)), s 2 (.mv (.const (.bool false)))]) (.seq (.region false [s 3 (.fadr 0 (t 1)), s 4 (.load false 1 (t 3)), s 5 (.call 97 [(t 4)]), s 6 (.mv (t 5)), g 6 true 7 (.fadr 1 (t 1)), g 6 true 8 (.load false 1 (t 7)), g 6 true 9 (.bin .leq (.const (.int .i64 0)) (t 8)), s 10 (.and (t 6) (t 9)), s 11 (.mv (t 10)), g 11 true 12 (.fadr 1 (t 1)), g 11 true 13 (.load false 1 (t 12)), g 11 true 14 (.bin .leq (t 13) (.const (.int .i64 9))), s 15 (.and (t 11) (t 14)), s 16 (.mv (t 15)), g 16 true 17 (.fadr 2 (t 1)), g 16 true 18 (.load false 1 (t 17)), g 16 true 19 (.call 98 [(t 18)]), s 20 (.and (t 16) (t 19)), s 21 (.mv (t 20)), g 21 true 22 (.fadr 3 (t 1)), g 21 true 23 (.load false 1 (t 22)), g 21 true 24 (.call 99 [(t 23)]), s 25 (.and (t 21) (t 24)), s 26 (.mv (t 25)), g 26 true 27 (.load true 4 (t 1)), g 26 true 28 (.call 100 [(t 27)]), s 29 (.and (t 26) (t 28)), s 30 (.mv (t 29)), g 30 true 31 (.fadr 2 (t 1)), g 30 true 32 (.load false 1 (t 31)), g 30 true 33 (.call 101 [(t 32)]), g 30 true 34 (.len false (t 33)), g 30 true 35 (.bin .leq (t 34) (.const (.int .i64 6))), s 36 (.and (t 30) (t 35)), s 2 (.mv (t 36))]) .ret))
def pIsRule.keep : List Nat := [0, 1, 2]
def pIsRule.res : List RRes := [.tmp 2]
theorem pIsRule.ofS {mo : Bool} {args : List AV} {r : AV} (hr : isScalR r = true) (hn : Nat.ble args.length Tryz.f55.ntmps = true) (h : aCode (Kn mo Tryz.prog) pIsRule.keep 0 pIsRule.code (doneS pIsRule.res r) ⟨argEnv 0 args, [], []⟩) : Abs.Ret mo Tryz.prog 55 args r [] :=
  Abs.Ret.of_irS hr Tryz.func55 rfl (by kernel_rfl) (Nat.le_of_ble_eq_true hn) (by kernel_rfl) (by kernel_rfl) h
abbrev pIsRule.Ret (args : List AV) (r : AV) (frs : Fr) : Prop := Abs.Ret true Tryz.prog 55 args r frs
def sElse.code : ACode := (.seq (.region false [s 3 (.box (t 0)), s 6 (.mv (.const (.bool false)))]) (.seq (.seq (.region false [s 7 (.mv (.const (.int .i64 0)))]) (.block 0 (.loop (.seq (.seq (.region false [s 9 (.mv (t 7)), s 10 (.fadr 2 (t 3)), s 11 (.load false 1 (t 10)), s 12 (.len false (t 11)), s 13 (.bin .lss (t 9) (t 12))]) (.cond (t 13) .skip (.exit 0))) (.seq (.block 1 (.seq (.region false [s 16 (.mv (t 7)), s 17 (.mv (t 1)), s 18 (.bin .neq (t 16) (t 17)), s 19 (.mv (t 18)), g 19 true 20 (.fadr 2 (t 3)), g 19 true 21 (.load false 1 (t 20)), g 19 true 22 (.mv (t 7)), g 19 true 23 (.iadr 5 (t 21) (t 22)), g 19 true 24 (.load true 5 (t 23)), g 19 true 25 (.call 84 [(t 24)]), g 19 true 26 (.mv (t 2)), g 19 true 27 (.call 85 [(t 25), (t 26)]), s 28 (.and (t 19) (t 27))]) (.cond (t 28) (.seq (.region false [s 6 (.mv (.const (.bool true)))]) .ret) .skip))) (.region false [s 14 (.mv (t 7)), s 15 (.bin .add (t 14) (.const (.int .i64 1))), s 7 (.mv (t 15))])))))) (.seq (.seq (.region false [s 8 (.mv (.const (.int .i64 0)))]) (.block 2 (.loop (.seq (.seq (.region false [s 29 (.mv (t 8)), s 30 (.fadr 3 (t 3)), s 31 (.load false 1 (t 30)), s 32 (.len false (t 31)), s 33 (.bin .lss (t 29) (t 32))]) (.cond (t 33) .skip (.exit 2))) (.seq (.block 3 (.seq (.region false [s 36 (.fadr 3 (t 3)), s 37 (.load false 1 (t 36)), s 38 (.mv (t 8)), s 39 (.iadr 3 (t 37) (t 38)), s 40 (.fadr 1 (t 39)), s 41 (.load true 2 (t 40)), s 42 (.call 89 [(t 41)]), s 43 (.mv (t 2)), s 44 (.call 85 [(t 42), (t 43)])]) (.cond (t 44) (.seq (.region false [s 6 (.mv (.const (.bool true)))]) .ret) .skip))) (.region false [s 34 (.mv (t 8)), s 35 (.bin .add (t 34) (.const (.int .i64 1))), s 8 (.mv (t 35))])))))) (.seq (.region false [s 6 (.mv (.const (.bool false)))]) .ret))))
def sElse.keep : List Nat := [0, 1, 2, 3, 6, 7, 8]
def sElse.res : List RRes := [.tmp 6]
theorem sElse.of {mo : Bool} {args : List AV} {r : AV} {frs : Fr} (hn : Nat.ble args.length Tryz.f87.ntmps = true) (h : aCode (Kn mo Tryz.prog) sElse.keep 0 sElse.code (doneK sElse.res r frs) ⟨argEnv 0 args, [], []⟩) : Abs.Ret mo Tryz.prog 87 args r frs :=
  Abs.Ret.of_ir Tryz.func87 rfl (by kernel_rfl) (Nat.le_of_ble_eq_true hn) (by kernel_rfl) (by kernel_rfl) h
abbrev sElse.Ret (args : List AV) (r : AV) (frs : Fr) : Prop := Abs.Ret true Tryz.prog 87 args r frs
def pareConds.code : ACode := (.seq (.region false [s 2 (.mv (.const (.bool false)))]) (.seq (.region false [s 3 (.mv (t 0)), s 4 (.len false (t 3)), s 5 (.bin .leq (.const (.int .i64 1)) (t 4)), s 6 (.mv (t 5)), g 6 true 7 (.mv (t 0)), g 6 true 8 (.len false (t 7)), g 6 true 9 (.bin .leq (t 8) (.const (.int .i64 4))), s 10 (.and (t 6) (t 9)), s 11 (.mv (t 10)), g 11 true 12 (.mv (t 0)), g 11 true 13 (.iadr 5 (t 12) (.const (.int .i64 0))), g 11 true 14 (.fadr 0 (t 13)), g 11 true 15 (.load false 1 (t 14)), g 11 true 16 (.bin .eql (t 15) (.const (.int .i64 1))), s 17 (.and (t 11) (t 16)), s 18 (.mv (t 17)), g 18 true 19 (.mv (t 0)), g 18 true 20 (.call 135 [(t 19), (.func 136)]), s 21 (.and (t 18) (t 20)), s 2 (.mv (t 21))]) .ret))
def pareConds.keep : List Nat := [0, 2]
def pareConds.res : List RRes := [.tmp 2]
theorem pareConds.of {mo : Bool} {args : List AV} {r : AV} {frs : Fr} (hn : Nat.ble args.length Tryz.f98.ntmps = true) (h : aCode (Kn mo Tryz.prog) pareConds.keep 0 pareConds.code (doneK pareConds.res r frs) ⟨argEnv 0 args, [], []⟩) : Abs.Ret mo Tryz.prog 98 args r frs :=
  Abs.Ret.of_ir Tryz.func98 rfl (by kernel_rfl) (Nat.le_of_ble_eq_true hn) (by kernel_rfl) (by kernel_rfl) h
abbrev pareConds.Ret (args : List AV) (r : AV) (frs : Fr) : Prop := Abs.Ret true Tryz.prog 98 args r frs
def pareActions.code : ACode := (.seq (.region false [s 2 (.mv (.const (.bool false)))]) (.seq (.region false [s 3 (.mv (t 0)), s 4 (.len false (t 3)), s 5 (.bin .leq (.const (.int .i64 1)) (t 4)), s 6 (.mv (t 5)), g 6 true 7 (.mv (t 0)), g 6 true 8 (.len false (t 7)), g 6 true 9 (.bin .leq (t 8) (.const (.int .i64 2))), s 10 (.and (t 6) (t 9)), s 11 (.mv (t 10)), g 11 true 12 (.mv (t 0)), g 11 true 13 (.call 137 [(t 12), (.func 138)]), s 14 (.and (t 11) (t 13)), s 2 (.mv (t 14))]) .ret))
def pareActions.keep : List Nat := [0, 2]
def pareActions.res : List RRes := [.tmp 2]
theorem pareActions.of {mo : Bool} {args : List AV} {r : AV} {frs : Fr} (hn : Nat.ble args.length Tryz.f99.ntmps = true) (h : aCode (Kn mo Tryz.prog) pareActions.keep 0 pareActions.code (doneK pareActions.res r frs) ⟨argEnv 0 args, [], []⟩) : Abs.Ret mo Tryz.prog 99 args r frs :=
  Abs.Ret.of_ir Tryz.func99 rfl (by kernel_rfl) (Nat.le_of_ble_eq_true hn) (by kernel_rfl) (by kernel_rfl) h
abbrev pareActions.Ret (args : List AV) (r : AV) (frs : Fr) : Prop := Abs.Ret true Tryz.prog 99 args r frs
def pusesOnlyBound.code : ACode := (.seq (.region false [s 1 (.box (t 0)), s 2 (.mv (.const (.bool false)))]) (.seq (.seq (.region false [s 5 (.fadr 2 (t 1)), s 6 (.load false 1 (t 5)), s 7 (.len false (t 6)), s 8 (.mv (.const (.int .i64 0)))]) (.block 0 (.loop (.seq (.region false [s 9 (.bin .lss (t 8) (t 7))]) (.seq (.cond (t 9) .skip (.exit 0)) (.seq (.block 1 (.seq (.region false [s 10 (.mv (t 8)), s 3 (.mv (t 10))]) (.seq (.region false [s 11 (.load true 4 (t 1)), s 12 (.mv (t 3)), s 13 (.call 139 [(t 11), (t 12)]), s 14 (.not (t 13))]) (.cond (t 14) (.seq (.region false [s 2 (.mv (.const (.bool false)))]) .ret) .skip)))) (.region false [s 15 (.bin .add (t 8) (.const (.int .i64 1))), s 8 (.mv (t 15))]))))))) (.seq (.region false [s 16 (.load true 4 (t 1)), s 17 (.fadr 2 (t 1)), s 18 (.load false 1 (t 17)), s 19 (.len false (t 18)), s 20 (.call 140 [(t 16), (t 19)]), s 4 (.alloc [(.slice none 0 0)]), ⟨none, none, (.store 1 (t 4) (t 20))⟩]) (.seq (.region false [s 21 (.fadr 3 (t 1)), s 22 (.load false 1 (t 21)), s 23 (.clo 141 [] [(t 4)]), s 24 (.call 137 [(t 22), (t 23)]), s 2 (.mv (t 24))]) .ret))))
def pusesOnlyBound.keep : List Nat := [0, 1, 2, 3, 4, 7, 8, 9]
def pusesOnlyBound.res : List RRes := [.tmp 2]
theorem pusesOnlyBound.ofS {mo : Bool} {args : List AV} {r : AV} (hr : isScalR r = true) (hn : Nat.ble args.length Tryz.f100.ntmps = true) (h : aCode (Kn mo Tryz.prog) pusesOnlyBound.keep 0 pusesOnlyBound.code (doneS pusesOnlyBound.res r) ⟨argEnv 0 args, [], []⟩) : Abs.Ret mo Tryz.prog 100 args r [] :=
  Abs.Ret.of_irS hr Tryz.func100 rfl (by kernel_rfl) (Nat.le_of_ble_eq_true hn) (by kernel_rfl) (by kernel_rfl) h
abbrev pusesOnlyBound.Ret (args : List AV) (r : AV) (frs : Fr) : Prop := Abs.Ret true Tryz.prog 100 args r frs
def pmayStandAt.code : ACode := (.seq (.region false [s 2 (.box (t 0)), s 4 (.mv (.const (.bool false)))]) (.seq (.heldT [8, 9, 10, 11, 12, 13, 14, 15, 5, 6] (.alt (s 8 (.fadr 2 (t 2))) (.alt (s 9 (.load false 1 (t 8))) (.alt (s 10 (.mv (t 1))) (.alt (s 11 (.iadr 5 (t 9) (t 10))) (.alt (s 12 (.load true 5 (t 11))) (.alt (s 13 (.load true 4 (t 2))) (.alt (s 14 (.mv (t 1))) (.alt (s 15 (.call 140 [(t 13), (t 14)])) (.alt (s 5 (.alloc [(.int .i64 (.ofNat 0)), (.string (.mk (.mk []))), (.slice none 0 0), (.string (.mk (.mk []))), (.string (.mk (.mk [])))])) (.alt (s 6 (.alloc [(.slice none 0 0)])) .fin .none) (.alt (s 6 (.alloc [(.slice none 0 0)])) (.alt (s 5 (.alloc [(.int .i64 (.ofNat 0)), (.string (.mk (.mk []))), (.slice none 0 0), (.string (.mk (.mk []))), (.string (.mk (.mk [])))])) .fin .none) .none)) (.alt (s 5 (.alloc [(.int .i64 (.ofNat 0)), (.string (.mk (.mk []))), (.slice none 0 0), (.string (.mk (.mk []))), (.string (.mk (.mk [])))])) (.alt (s 15 (.call 140 [(t 13), (t 14)])) (.alt (s 6 (.alloc [(.slice none 0 0)])) .fin .none) (.alt (s 6 (.alloc [(.slice none 0 0)])) (.alt (s 15 (.call 140 [(t 13), (t 14)])) .fin .none) .none)) (.alt (s 6 (.alloc [(.slice none 0 0)])) (.alt (s 15 (.call 140 [(t 13), (t 14)])) (.alt (s 5 (.alloc [(.int .i64 (.ofNat 0)), (.string (.mk (.mk []))), (.slice none 0 0), (.string (.mk (.mk []))), (.string (.mk (.mk [])))])) .fin .none) (.alt (s 5 (.alloc [(.int .i64 (.ofNat 0)), (.string (.mk (.mk []))), (.slice none 0 0), (.string (.mk (.mk []))), (.string (.mk (.mk [])))])) (.alt (s 15 (.call 140 [(t 13), (t 14)])) .fin .none) .none)) .none))) .none) .none) .none) .none) .none) .none) .none) [⟨none, none, (.store 5 (t 5) (t 12))⟩, ⟨none, none, (.store 1 (t 6) (t 15))⟩]) (.seq (.seq (.region false [s 16 (.fadr 0 (t 5)), s 17 (.load false 1 (t 16))]) (.block 0 (.seq (.region false [s 19 (.bin .eql (t 17) (.const (.int .i64 1))), s 18 (.mv (t 19))]) (.cond (t 18) (.seq (.region false [s 4 (.mv (.const (.bool true)))]) .ret) (.seq (.region false [s 21 (.bin .eql (t 17) (.const (.int .i64 2))), s 20 (.mv (t 21))]) (.cond (t 20) (.seq (.heldT [22, 23, 24, 25, 26, 27, 28, 29, 30, 31, 32, 33, 34, 35, 36, 7] (.alt (s 22 (.fadr 2 (t 2))) (.alt (s 23 (.load false 1 (t 22))) (.alt (s 24 (.mv (t 1))) (.alt (s 25 (.slice false 5 (t 23) none (some (t 24)))) (.alt (s 26 (.fadr 2 (t 2))) (.alt (s 27 (.load false 1 (t 26))) (.alt (s 28 (.mv (t 1))) (.alt (s 29 (.bin .add (t 28) (.const (.int .i64 1)))) (.alt (s 30 (.slice false 5 (t 27) (some (t 29)) none)) (.alt (s 33 (.fadr 3 (t 2))) (.alt (s 34 (.load false 1 (t 33))) (.alt (s 31 (.bslice 31 1 true [(t 25), (t 30)])) (.alt (s 32 (.call 172 [(t 31)])) (.alt (s 35 (.build [(.string (.mk (.mk []))), (.int .i64 (.ofNat 0)), (.slice none 0 0), (.slice none 0 0)] [(2, 1), (3, 1)] [(t 32), (t 34)])) (.alt (s 36 (.call 171 [(t 35)])) (.alt (s 7 (.alloc [(.slice none 0 0)])) .fin .none) (.alt (s 7 (.alloc [(.slice none 0 0)])) (.alt (s 36 (.call 171 [(t 35)])) .fin .none) .none)) .none) (.alt (s 7 (.alloc [(.slice none 0 0)])) (.alt (s 32 (.call 172 [(t 31)])) (.alt (s 35 (.build [(.string (.mk (.mk []))), (.int .i64 (.ofNat 0)), (.slice none 0 0), (.slice none 0 0)] [(2, 1), (3, 1)] [(t 32), (t 34)])) (.alt (s 36 (.call 171 [(t 35)])) .fin .none) .none) .none) .none)) (.alt (s 7 (.alloc [(.slice none 0 0)])) (.alt (s 31 (.bslice 31 1 true [(t 25), (t 30)])) (.alt (s 32 (.call 172 [(t 31)])) (.alt (s 35 (.build [(.string (.mk (.mk []))), (.int .i64 (.ofNat 0)), (.slice none 0 0), (.slice none 0 0)] [(2, 1), (3, 1)] [(t 32), (t 34)])) (.alt (s 36 (.call 171 [(t 35)])) .fin .none) .none) .none) .none) .none)) .none) .none) .none) .none) .none) .none) .none) .none) .none) .none) .none) [⟨none, none, (.store 1 (t 7) (t 36))⟩]) (.seq (.region false [s 37 (.load true 5 (t 5)), s 38 (.call 144 [(t 37)]), s 39 (.clo 174 [] [(t 6), (t 7)]), s 40 (.call 173 [(t 38), (t 39)]), s 4 (.mv (t 40))]) .ret)) .skip)))))) (.seq (.held [s 41 (.load true 5 (t 5)), s 43 (.load false 1 (t 6)), s 42 (.call 144 [(t 41)])] [s 44 (.call 142 [(t 42), (t 43)]), s 4 (.mv (t 44))]) .ret))))
def pmayStandAt.keep : List Nat := [0, 1, 2, 4, 5, 6, 7, 17]
def pmayStandAt.res : List RRes := [.tmp 4]
theorem pmayStandAt.ofS {mo : Bool} {args : List AV} {r : AV} (hr : isScalR r = true) (hn : Nat.ble args.length Tryz.f139.ntmps = true) (h : aCode (Kn mo Tryz.prog) pmayStandAt.keep 0 pmayStandAt.code (doneS pmayStandAt.res r) ⟨argEnv 0 args, [], []⟩) : Abs.Ret mo Tryz.prog 139 args r [] :=
  Abs.Ret.of_irS hr Tryz.func139 rfl (by kernel_rfl) (Nat.le_of_ble_eq_true hn) (by kernel_rfl) (by kernel_rfl) h
abbrev pmayStandAt.Ret (args : List AV) (r : AV) (frs : Fr) : Prop := Abs.Ret true Tryz.prog 139 args r frs
def pareAmong.code : ACode := (.seq (.region false [s 3 (.box (t 1)), s 4 (.mv (.const (.bool false)))]) (.seq (.region false [s 5 (.mv (t 0)), s 6 (.clo 176 [] [(t 3)]), s 7 (.call 173 [(t 5), (t 6)]), s 4 (.mv (t 7))]) .ret))
def pareAmong.keep : List Nat := [0, 1, 3, 4]
def pareAmong.res : List RRes := [.tmp 4]
theorem pareAmong.of {mo : Bool} {args : List AV} {r : AV} {frs : Fr} (hn : Nat.ble args.length Tryz.f142.ntmps = true) (h : aCode (Kn mo Tryz.prog) pareAmong.keep 0 pareAmong.code (doneK pareAmong.res r frs) ⟨argEnv 0 args, [], []⟩) : Abs.Ret mo Tryz.prog 142 args r frs :=
  Abs.Ret.of_ir Tryz.func142 rfl (by kernel_rfl) (Nat.le_of_ble_eq_true hn) (by kernel_rfl) (by kernel_rfl) h
abbrev pareAmong.Ret (args : List AV) (r : AV) (frs : Fr) : Prop := Abs.Ret true Tryz.prog 142 args r frs
def pallC.code : ACode := (.seq (.region false [s 4 (.mv (.const (.bool false)))]) (.seq (.seq (.region false [s 7 (.mv (t 0)), s 8 (.len false (t 7)), s 9 (.mv (.const (.int .i64 0)))]) (.block 0 (.loop (.seq (.region false [s 10 (.bin .lss (t 9) (t 8))]) (.seq (.cond (t 10) .skip (.exit 0)) (.seq (.block 1 (.seq (.region false [s 11 (.iadr 5 (t 7) (t 9)), s 12 (.load true 5 (t 11)), s 6 (.alloc [(.int .i64 (.ofNat 0)), (.string (.mk (.mk []))), (.slice none 0 0), (.string (.mk (.mk []))), (.string (.mk (.mk [])))]), ⟨none, none, (.store 5 (t 6) (t 12))⟩]) (.seq (.region false [s 13 (.mv (t 1)), s 14 (.load true 5 (t 6)), s 15 (.callv (t 13) [(t 14)]), s 16 (.not (t 15))]) (.cond (t 16) (.seq (.region false [s 4 (.mv (.const (.bool false)))]) .ret) .skip)))) (.region false [s 17 (.bin .add (t 9) (.const (.int .i64 1))), s 9 (.mv (t 17))]))))))) (.seq (.region false [s 4 (.mv (.const (.bool true)))]) .ret)))
def pallC.keep : List Nat := [0, 1, 4, 6, 7, 8, 9, 10]
def pallC.res : List RRes := [.tmp 4]
theorem pallC.of {mo : Bool} {args : List AV} {r : AV} {frs : Fr} (hn : Nat.ble args.length Tryz.f135.ntmps = true) (h : aCode (Kn mo Tryz.prog) pallC.keep 0 pallC.code (doneK pallC.res r frs) ⟨argEnv 0 args, [], []⟩) : Abs.Ret mo Tryz.prog 135 args r frs :=
  Abs.Ret.of_ir Tryz.func135 rfl (by kernel_rfl) (Nat.le_of_ble_eq_true hn) (by kernel_rfl) (by kernel_rfl) h
abbrev pallC.Ret (args : List AV) (r : AV) (frs : Fr) : Prop := Abs.Ret true Tryz.prog 135 args r frs
def pallA.code : ACode := (.seq (.region false [s 4 (.mv (.const (.bool false)))]) (.seq (.seq (.region false [s 7 (.mv (t 0)), s 8 (.len false (t 7)), s 9 (.mv (.const (.int .i64 0)))]) (.block 0 (.loop (.seq (.region false [s 10 (.bin .lss (t 9) (t 8))]) (.seq (.cond (t 10) .skip (.exit 0)) (.seq (.block 1 (.seq (.region false [s 11 (.iadr 3 (t 7) (t 9)), s 12 (.load true 3 (t 11)), s 6 (.alloc [(.int .i64 (.ofNat 0)), (.string (.mk (.mk []))), (.slice none 0 0)]), ⟨none, none, (.store 3 (t 6) (t 12))⟩]) (.seq (.region false [s 13 (.mv (t 1)), s 14 (.load true 3 (t 6)), s 15 (.callv (t 13) [(t 14)]), s 16 (.not (t 15))]) (.cond (t 16) (.seq (.region false [s 4 (.mv (.const (.bool false)))]) .ret) .skip)))) (.region false [s 17 (.bin .add (t 9) (.const (.int .i64 1))), s 9 (.mv (t 17))]))))))) (.seq (.region false [s 4 (.mv (.const (.bool true)))]) .ret)))
def pallA.keep : List Nat := [0, 1, 4, 6, 7, 8, 9, 10]
def pallA.res : List RRes := [.tmp 4]
theorem pallA.of {mo : Bool} {args : List AV} {r : AV} {frs : Fr} (hn : Nat.ble args.length Tryz.f137.ntmps = true) (h : aCode (Kn mo Tryz.prog) pallA.keep 0 pallA.code (doneK pallA.res r frs) ⟨argEnv 0 args, [], []⟩) : Abs.Ret mo Tryz.prog 137 args r frs :=
  Abs.Ret.of_ir Tryz.func137 rfl (by kernel_rfl) (Nat.le_of_ble_eq_true hn) (by kernel_rfl) (by kernel_rfl) h
abbrev pallA.Ret (args : List AV) (r : AV) (frs : Fr) : Prop := Abs.Ret true Tryz.prog 137 args r frs
def pallS.code : ACode := (.seq (.region false [s 4 (.mv (.const (.bool false)))]) (.seq (.seq (.region false [s 7 (.mv (t 0)), s 8 (.len false (t 7)), s 9 (.mv (.const (.int .i64 0)))]) (.block 0 (.loop (.seq (.region false [s 10 (.bin .lss (t 9) (t 8))]) (.seq (.cond (t 10) .skip (.exit 0)) (.seq (.block 1 (.seq (.region false [s 11 (.iadr 1 (t 7) (t 9)), s 12 (.load false 1 (t 11)), s 6 (.mv (t 12))]) (.seq (.region false [s 13 (.mv (t 1)), s 14 (.mv (t 6)), s 15 (.callv (t 13) [(t 14)]), s 16 (.not (t 15))]) (.cond (t 16) (.seq (.region false [s 4 (.mv (.const (.bool false)))]) .ret) .skip)))) (.region false [s 17 (.bin .add (t 9) (.const (.int .i64 1))), s 9 (.mv (t 17))]))))))) (.seq (.region false [s 4 (.mv (.const (.bool true)))]) .ret)))
def pallS.keep : List Nat := [0, 1, 4, 6, 7, 8, 9, 10]
def pallS.res : List RRes := [.tmp 4]
theorem pallS.of {mo : Bool} {args : List AV} {r : AV} {frs : Fr} (hn : Nat.ble args.length Tryz.f173.ntmps = true) (h : aCode (Kn mo Tryz.prog) pallS.keep 0 pallS.code (doneK pallS.res r frs) ⟨argEnv 0 args, [], []⟩) : Abs.Ret mo Tryz.prog 173 args r frs :=
  Abs.Ret.of_ir Tryz.func173 rfl (by kernel_rfl) (Nat.le_of_ble_eq_true hn) (by kernel_rfl) (by kernel_rfl) h
abbrev pallS.Ret (args : List AV) (r : AV) (frs : Fr) : Prop := Abs.Ret true Tryz.prog 173 args r frs
def pmayClo.code : ACode := (.seq (.region false [s 4 (.mv (.const (.bool false)))]) (.seq (.region false [s 5 (.load false 1 (t 1)), s 6 (.mv (t 0)), s 7 (.call 175 [(t 5), (t 6)]), s 8 (.mv (t 7)), g 8 false 9 (.load false 1 (t 2)), g 8 false 10 (.mv (t 0)), g 8 false 11 (.call 175 [(t 9), (t 10)]), g 8 false 12 (.not (t 11)), s 13 (.or (t 8) (t 12)), s 4 (.mv (t 13))]) .ret))
def pmayClo.keep : List Nat := [0, 1, 2, 4]
def pmayClo.res : List RRes := [.tmp 4]
theorem pmayClo.of {mo : Bool} {args : List AV} {r : AV} {frs : Fr} (hn : Nat.ble args.length Tryz.f174.ntmps = true) (h : aCode (Kn mo Tryz.prog) pmayClo.keep 0 pmayClo.code (doneK pmayClo.res r frs) ⟨argEnv 0 args, [], []⟩) : Abs.Ret mo Tryz.prog 174 args r frs :=
  Abs.Ret.of_ir Tryz.func174 rfl (by kernel_rfl) (Nat.le_of_ble_eq_true hn) (by kernel_rfl) (by kernel_rfl) h
abbrev pmayClo.Ret (args : List AV) (r : AV) (frs : Fr) : Prop := Abs.Ret true Tryz.prog 174 args r frs
def pamongClo.code : ACode := (.seq (.region false [s 3 (.mv (.const (.bool false)))]) (.seq (.region false [s 4 (.load false 1 (t 1)), s 5 (.mv (t 0)), s 6 (.call 175 [(t 4), (t 5)]), s 3 (.mv (t 6))]) .ret))
def pamongClo.keep : List Nat := [0, 1, 3]
def pamongClo.res : List RRes := [.tmp 3]
theorem pamongClo.of {mo : Bool} {args : List AV} {r : AV} {frs : Fr} (hn : Nat.ble args.length Tryz.f176.ntmps = true) (h : aCode (Kn mo Tryz.prog) pamongClo.keep 0 pamongClo.code (doneK pamongClo.res r frs) ⟨argEnv 0 args, [], []⟩) : Abs.Ret mo Tryz.prog 176 args r frs :=
  Abs.Ret.of_ir Tryz.func176 rfl (by kernel_rfl) (Nat.le_of_ble_eq_true hn) (by kernel_rfl) (by kernel_rfl) h
abbrev pamongClo.Ret (args : List AV) (r : AV) (frs : Fr) : Prop := Abs.Ret true Tryz.prog 176 args r frs
def pusesClo.code : ACode := (.seq (.region false [s 2 (.box (t 0)), s 3 (.mv (.const (.bool false)))]) (.seq (.held [s 4 (.fadr 1 (t 2)), s 5 (.load true 2 (t 4)), s 7 (.load false 1 (t 1)), s 6 (.call 143 [(t 5)])] [s 8 (.call 142 [(t 6), (t 7)]), s 3 (.mv (t 8))]) .ret))
def pusesClo.keep : List Nat := [0, 1, 2, 3]
def pusesClo.res : List RRes := [.tmp 3]
theorem pusesClo.of {mo : Bool} {args : List AV} {r : AV} {frs : Fr} (hn : Nat.ble args.length Tryz.f141.ntmps = true) (h : aCode (Kn mo Tryz.prog) pusesClo.keep 0 pusesClo.code (doneK pusesClo.res r frs) ⟨argEnv 0 args, [], []⟩) : Abs.Ret mo Tryz.prog 141 args r frs :=
  Abs.Ret.of_ir Tryz.func141 rfl (by kernel_rfl) (Nat.le_of_ble_eq_true hn) (by kernel_rfl) (by kernel_rfl) h
abbrev pusesClo.Ret (args : List AV) (r : AV) (frs : Fr) : Prop := Abs.Ret true Tryz.prog 141 args r frs
def slConcatC.code : ACode := (.seq (.region false [s 2 (.mv (.const (.slice none 0 0)))]) (.seq (.region false [s 3 (.mv (.const (.int .i64 0)))]) (.seq (.seq (.region false [s 9 (.mv (t 0)), s 10 (.len false (t 9)), s 11 (.mv (.const (.int .i64 0)))]) (.block 0 (.loop (.seq (.region false [s 12 (.bin .lss (t 11) (t 10))]) (.seq (.cond (t 12) .skip (.exit 0)) (.seq (.block 1 (.seq (.region false [s 13 (.iadr 1 (t 9) (t 11)), s 14 (.load false 1 (t 13)), s 5 (.mv (t 14))]) (.seq (.region false [s 15 (.mv (t 3)), s 16 (.mv (t 5)), s 17 (.len false (t 16)), s 18 (.bin .add (t 15) (t 17)), s 3 (.mv (t 18))]) (.seq (.region false [s 19 (.mv (t 3)), s 20 (.bin .lss (t 19) (.const (.int .i64 0)))]) (.cond (t 20) (.region false [s 21 .other, ⟨none, none, .other⟩]) .skip))))) (.region false [s 22 (.bin .add (t 11) (.const (.int .i64 1))), s 11 (.mv (t 22))]))))))) (.seq (.region false [s 23 (.mv (t 3)), s 24 (.call 199 [(.const (.slice none 0 0)), (t 23)]), s 6 (.mv (t 24))]) (.seq (.seq (.region false [s 25 (.mv (t 0)), s 26 (.len false (t 25)), s 27 (.mv (.const (.int .i64 0)))]) (.block 2 (.loop (.seq (.region false [s 28 (.bin .lss (t 27) (t 26))]) (.seq (.cond (t 28) .skip (.exit 2)) (.seq (.block 3 (.seq (.region false [s 29 (.iadr 1 (t 25) (t 27)), s 30 (.load false 1 (t 29)), s 8 (.mv (t 30))]) (.region false [s 31 (.mv (t 6)), s 32 (.mv (t 8)), s 33 (.append 116 5 80 (t 31) (t 32)), s 6 (.mv (t 33))]))) (.region false [s 34 (.bin .add (t 27) (.const (.int .i64 1))), s 27 (.mv (t 34))]))))))) (.seq (.region false [s 35 (.mv (t 6)), s 2 (.mv (t 35))]) .ret))))))
def slConcatC.keep : List Nat := [0, 2, 3, 5, 6, 8, 9, 10, 11, 12, 25, 26, 27, 28]
def slConcatC.res : List RRes := [.tmp 2]
theorem slConcatC.of {mo : Bool} {args : List AV} {r : AV} {frs : Fr} (hn : Nat.ble args.length Tryz.f172.ntmps = true) (h : aCode (Kn mo Tryz.prog) slConcatC.keep 0 slConcatC.code (doneK slConcatC.res r frs) ⟨argEnv 0 args, [], []⟩) : Abs.Ret mo Tryz.prog 172 args r frs :=
  Abs.Ret.of_ir Tryz.func172 rfl (by kernel_rfl) (Nat.le_of_ble_eq_true hn) (by kernel_rfl) (by kernel_rfl) h
abbrev slConcatC.Ret (args : List AV) (r : AV) (frs : Fr) : Prop := Abs.Ret true Tryz.prog 172 args r frs
abbrev slGrowC.Ret (args : List AV) (r : AV) (frs : Fr) : Prop := Abs.Ret true Tryz.prog 199 args r frs
end Go.Proofs.YtoindmahilbalaaGreat
