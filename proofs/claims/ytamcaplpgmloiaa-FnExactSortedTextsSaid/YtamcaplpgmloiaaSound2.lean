/-
  The operations that leave memory alone do what the evaluator says of them: one law an operation.
-/
import Derived.Test.YtamcaplpgmloiaaSound1
import Derived.WalkLawsBesides
namespace Go.Proofs.Ytamcaplpgmloiaa
namespace Abs
open Go.RowKit

section
variable {P : Program} {B : Nat} {w : World} {F : Nat → Nat} {tok : List (Option Nat)} {fr : Fr} {box : List BId} {bx : List ABox} {e : Env} {a : Act} {o : Oper}

/-- what an operation of this kind has to do -/
def Does (P : Program) (B : Nat) (w : World) (F : Nat → Nat) (tok : List (Option Nat)) (fr : Fr) (box : List BId) (a : Act) (o : Oper) (k : AV → Prop) : Prop :=
  ∃ x v, k x ∧ RepT B w F tok fr box x v ∧ Gives P a o w v

theorem does_val {k : AV → Prop} {v : Value} (hk : k (.val v)) (h : ∀ w', (execOp a.eval o).run P w' = .ok (.value v) w') : Does P B w F tok fr box a o k :=
  ⟨_, v, hk, .rep _ _ (.val v), fun w' _ => h w'⟩

theorem does_mv (he : EnvOk B w F tok fr box e a) {x : Operand} {k : AV → Prop} (ho : o.op = .move x ∨ o.op = .assign x) (h : evG true e x k) : Does P B w F tok fr box a o k := by
  obtain ⟨y, hk, hy⟩ := evG_sound he h
  exact ⟨y, _, hk, hy, fun w' _ => by rcases ho with ho | ho <;> simp [execOp, ho]⟩

theorem does_and (he : EnvOk B w F tok fr box e a) {c x : Operand} {k : AV → Prop} (ho : o.op = .pick c x (.const (.bool false)))
    (h : evG true e c fun c => gBool c fun c => evG (true && c) e x fun a => gBool a fun a => k (.val (.bool (c && a)))) : Does P B w F tok fr box a o k := by
  obtain ⟨y, hk, hy⟩ := evG_sound he h
  obtain ⟨b, rfl, hk⟩ := gBool_inv hk
  have hc := hy.val_inv
  cases b with
  | true =>
    obtain ⟨y, hk, hy⟩ := evG_sound he hk
    obtain ⟨b, rfl, hq⟩ := gBool_inv hk
    exact does_val (v := .bool b) (by simpa using hq) fun w' => by simp only [execOp, ho, hc, hy.val_inv]; rfl
  | false =>
    obtain ⟨y, hk⟩ := unG_ex hk
    obtain ⟨b, _, hq⟩ := gBool_inv hk
    exact does_val (v := .bool false) (by simpa using hq) fun w' => by simp only [execOp, ho, hc]; rfl

theorem does_or (he : EnvOk B w F tok fr box e a) {c x : Operand} {k : AV → Prop} (ho : o.op = .pick c (.const (.bool true)) x)
    (h : evG true e c fun c => gBool c fun c => evG (true && !c) e x fun a => gBool a fun a => k (.val (.bool (c || a)))) : Does P B w F tok fr box a o k := by
  obtain ⟨y, hk, hy⟩ := evG_sound he h
  obtain ⟨b, rfl, hk⟩ := gBool_inv hk
  have hc := hy.val_inv
  cases b with
  | false =>
    obtain ⟨y, hk, hy⟩ := evG_sound he hk
    obtain ⟨b, rfl, hq⟩ := gBool_inv hk
    exact does_val (v := .bool b) (by simpa using hq) fun w' => by simp only [execOp, ho, hc, hy.val_inv]; rfl
  | true =>
    obtain ⟨y, hk⟩ := unG_ex hk
    obtain ⟨b, _, hq⟩ := gBool_inv hk
    exact does_val (v := .bool true) (by simpa using hq) fun w' => by simp only [execOp, ho, hc]; rfl

theorem does_not (he : EnvOk B w F tok fr box e a) {t : TypeId} {x : Operand} {k : AV → Prop} (ho : o.op = .unOp .not t x)
    (h : evG true e x fun x => gBool x fun x => k (.val (.bool !x))) : Does P B w F tok fr box a o k := by
  obtain ⟨y, hk, hy⟩ := evG_sound he h
  obtain ⟨b, rfl, hk⟩ := gBool_inv hk
  exact does_val hk fun w' => by simp [execOp, ho, hy.val_inv, Op.unary]

theorem does_neg (he : EnvOk B w F tok fr box e a) {t : TypeId} {x : Operand} {k : AV → Prop} (ho : o.op = .unOp .neg t x)
    (h : evG true e x fun x => gInt x fun kd n => k (.val (.int kd (kd.wrap (-n))))) : Does P B w F tok fr box a o k := by
  obtain ⟨y, hk, hy⟩ := evG_sound he h
  obtain ⟨kd, n, rfl, hk⟩ := gInt_inv hk
  exact does_val hk fun w' => by simp [execOp, ho, hy.val_inv, Op.unary, Op.intArith]

theorem does_conv (he : EnvOk B w F tok fr box e a) {s d : TypeId} {x : Operand} {kd : IntKind} {ks : IntKind} {k : AV → Prop} (ho : o.op = .convert s d x)
    (hs : P.underlying s = some (.int ks)) (hd : P.underlying d = some (.int kd))
    (h : evG true e x fun x => gInt x fun _ n => k (.val (.int kd (kd.wrap n)))) : Does P B w F tok fr box a o k := by
  obtain ⟨y, hk, hy⟩ := evG_sound he h
  obtain ⟨kk, n, rfl, hk⟩ := gInt_inv hk
  exact does_val hk fun w' => by simp [execOp, ho, hy.val_inv, convert, run_underlying hs, run_underlying hd, Conv.intToInt]

theorem sh_run (op : BinOp) (t : TypeId) (k k' : IntKind) (x y : Int) (K : Value → Prop)
    (h : (op = .shl ∧ 0 ≤ y ∧ K (.int k (k.wrap (x * 2 ^ (min y.toNat k.bits))))) ∨ (op = .shr ∧ 0 ≤ y ∧ K (.int k (x.fdiv (2 ^ (min y.toNat k.bits)))))) :
    ∃ v, K v ∧ ∀ w', (binOp op t (.int k x) (.int k' y)).run P w' = .ok v w' := by
  rcases h with ⟨rfl, h0, hk⟩ | ⟨rfl, h0, hk⟩ <;> exact ⟨_, hk, fun w' => by simp [binOp, Op.shift, Int.not_lt.2 h0]⟩

theorem int_run (op : BinOp) (t : TypeId) (k : IntKind) (x y : Int) (K : Value → Prop) (h : aInt op k x y K) :
    ∃ v, K v ∧ ∀ w', (binOp op t (.int k x) (.int k y)).run P w' = .ok v w' := by
  cases op <;> simp only [aInt] at h
  case quo => obtain ⟨hy, hk⟩ := h; exact ⟨_, hk, fun w' => by simp [binOp, Op.intDiv, hy]⟩
  case rem => obtain ⟨hy, hk⟩ := h; exact ⟨_, hk, fun w' => by simp [binOp, Op.intDiv, hy]⟩
  all_goals first
    | exact h.no
    | exact ⟨_, h, fun w' => by simp only [binOp, Op.intArith, Op.intCmp, Op.intBits, ne_eq, not_true_eq_false, if_false]; rfl⟩

theorem size_data (s : ByteArray) : s.size = s.data.toList.length := rfl

theorem append_data (a b : ByteArray) : a ++ b = ⟨(a.data.toList ++ b.data.toList).toArray⟩ := by
  apply ByteArray.ext
  simp

theorem str_run (op : BinOp) (t : TypeId) (x y : Str) (K : AV → Prop) (h : aStr op x y K) :
    ∃ z v, K z ∧ (∀ {B : Nat} {w : World} {F : Nat → Nat} {tok : List (Option Nat)} {fr : Fr} {box : List BId}, Rep B w F tok fr box z v) ∧ ∀ w', (binOp op t (mkS x) (mkS y)).run P w' = .ok v w' := by
  cases op <;> simp only [aStr] at h
  case add =>
    obtain ⟨hy, hk⟩ := h
    refine ⟨_, _, hk, .str _, fun w' => ?_⟩
    have : ¬ (9223372036854775807 : Int) < ↑x.length + ↑y.length := by omega
    simp [binOp, Op.stringOp, mkS, this, append_data, ByteArray.size]
  all_goals first
    | exact h.no
    | exact ⟨_, _, h, .val _, fun w' => by simp [binOp, Op.stringOp, mkS]⟩

theorem does_bin (he : EnvOk B w F tok fr box e a) {op : BinOp} {t u : TypeId} {x y : Operand} {k : AV → Prop} (ho : o.op = .binOp op t x y u)
    (h : evG true e x fun x => evG true e y fun y => aBin op x y k) : Does P B w F tok fr box a o k := by
  obtain ⟨xv, hk1, hx⟩ := evG_sound he h
  obtain ⟨yv, hk2, hy⟩ := evG_sound he hk1
  unfold aBin at hk2
  split at hk2
  · rename_i kx xa
    split at hk2
    · rename_i ky ya
      have hsh : ∃ v, k (.val v) ∧ ∀ w', (binOp op t (.int kx xa) (.int ky ya)).run P w' = .ok v w' := by
        split at hk2
        · obtain ⟨h0, hk3⟩ := hk2; exact sh_run _ t _ _ _ _ (fun v => k (.val v)) (.inl ⟨rfl, h0, hk3⟩)
        · obtain ⟨h0, hk3⟩ := hk2; exact sh_run _ t _ _ _ _ (fun v => k (.val v)) (.inr ⟨rfl, h0, hk3⟩)
        · obtain ⟨rfl, hk3⟩ := hk2; exact int_run _ t _ _ _ _ hk3
      obtain ⟨v, hv, hr⟩ := hsh
      exact does_val hv fun w' => by simp [execOp, ho, hx.val_inv, hy.val_inv, eqGuard_at_int, hr]
    · exact hk2.no
  · rename_i xa
    split at hk2
    · rename_i ya
      obtain ⟨z, v, hz, hrep, hr⟩ := str_run (P := P) op t xa ya _ hk2
      refine ⟨z, v, hz, .rep _ _ hrep, fun w' _ => ?_⟩
      have h1 : eqGuard op t x y (mkS xa) (mkS ya) = pure () := eqGuard_at_string _ _ _ _ _ _
      simp [execOp, ho, hx.str_inv, hy.str_inv, h1, hr]
    · exact hk2.no
  · exact hk2.no

theorem does_binb (he : EnvOk B w F tok fr box e a) {op : BinOp} {t u : TypeId} {x y : Operand} {k : AV → Prop} (ho : o.op = .binOp op t x y u) (ht : P.underlying t = some .bool)
    (h : evG true e x fun x => evG true e y fun y => gBool x fun x => gBool y fun y => aBool op x y fun v => k (.val v)) : Does P B w F tok fr box a o k := by
  obtain ⟨xv, hk1, hx⟩ := evG_sound he h
  obtain ⟨yv, hk2, hy⟩ := evG_sound he hk1
  obtain ⟨x, rfl, hk3⟩ := gBool_inv hk2
  obtain ⟨y, rfl, hk⟩ := gBool_inv hk3
  cases op <;> simp only [aBool] at hk
  case eql => exact does_val hk fun w' => by simp [execOp, ho, hx.val_inv, hy.val_inv, eqGuard_at_bool, run_eql_bool _ t x y ht]
  case neq => exact does_val hk fun w' => by simp [execOp, ho, hx.val_inv, hy.val_inv, eqGuard_at_bool, run_neq_bool _ t x y ht]
  all_goals exact hk.no

theorem run_equal_nil (w : World) (t : TypeId) {el : TypeId} (ht : P.underlying t = some (.slice el)) (a : Option Addr) (n m : Nat) : (Op.equal t (.slice a n m) (.slice none 0 0)).run P w = .ok a.isNone w := by
  unfold Op.equal Op.maxDepth Op.equalIn
  simp only [Sem.run_bind, run_underlying ht, Result.andThen_ok]
  cases a <;> rfl

theorem does_nilq (he : EnvOk B w F tok fr box e a) {t u el : TypeId} {x : Operand} {ne : Bool} {k : AV → Prop} (ho : o.op = .binOp (if ne then .neq else .eql) t x (.const (.slice none 0 0)) u) (ht : P.underlying t = some (.slice el))
    (h : evG true e x fun x => nilK ne x k) : Does P B w F tok fr box a o k := by
  obtain ⟨xv, hk1, hx⟩ := evG_sound he h
  have fin : ∀ {ad : Option Addr} {n cap : Nat}, a.eval x = .slice ad n cap → k (.val (.bool (ad.isNone != ne))) → Does P B w F tok fr box a o k := fun {ad n cap} hv hk =>
    does_val hk fun w' => by
      have hc : a.eval (.const (.slice none 0 0)) = .slice none 0 0 := rfl
      cases ne <;> simp [execOp, ho, hv, hc, eqGuard_at_slice, binOp, run_equal_nil w' t ht]
  unfold nilK at hk1
  split at hk1
  · obtain ⟨hk⟩ := hk1
    generalize hv : a.eval x = v at hx
    have hx' := hx.list_inv
    cases hx' with
    | list _ _ ad cap sz b off vs hcap ha hsz hF hc hr hown =>
      refine fin hv (hk _ (fun hn => ?_))
      rename_i xs
      cases xs with
      | nil => rfl
      | cons y ys => rw [ha (by simp)] at hn; cases hn
  · obtain ⟨hk⟩ := hk1
    rcases hx.bsl_inv with ⟨b, cap, hb, _, hv⟩ | ⟨hb, rfl, hv⟩
    · exact fin hv (hk _ (fun hn => by cases hn))
    · exact fin hv (hk _ (fun _ => rfl))
  · exact fin hx.val_inv (by cases ne <;> exact hk1)
  · exact hk1.no

theorem does_lenS (he : EnvOk B w F tok fr box e a) {t : TypeId} {x : Operand} {k : AV → Prop} (ho : o.op = .call { callee := .builtin .len, args := #[x], argTypes := #[t] })
    (ht : P.underlying t = some .string) (h : evG true e x fun x => lenK' true x fun n => k (.val (.int .i64 n))) : Does P B w F tok fr box a o k := by
  obtain ⟨xv, hk1, hx⟩ := evG_sound he h
  obtain ⟨s, rfl, hk⟩ := gStr_inv hk1
  have h5 : (((⟨s.toArray⟩ : ByteArray).size : Nat) : Int) = (s.length : Int) := rfl
  exact does_val hk fun w' => by rw [← h5]; simp [execOp, ho, resolve, invoke, builtin, hx.str_inv, mkS, Builtin.len_, run_underlying ht, goInt]

theorem does_lenL (he : EnvOk B w F tok fr box e a) {t el : TypeId} {x : Operand} {k : AV → Prop} (ho : o.op = .call { callee := .builtin .len, args := #[x], argTypes := #[t] })
    (ht : P.underlying t = some (.slice el)) (h : evG true e x fun x => lenK' false x fun n => k (.val (.int .i64 n))) : Does P B w F tok fr box a o k := by
  obtain ⟨xv, hk1, hx⟩ := evG_sound he h
  simp only [lenK'] at hk1
  split at hk1
  · rcases hx.bsl_inv with ⟨b, cap, hb, _, hv⟩ | ⟨hb, rfl, hv⟩ <;>
    exact does_val hk1 fun w' => by simp [execOp, ho, resolve, invoke, builtin, hv, Builtin.len_, run_underlying ht, goInt]
  · obtain ⟨xs, ad, cap, sz, b, off, vs, hk, hv, _⟩ := gList_rep (x := .list _ _) (k := fun xs => k (.val (.int .i64 xs.length))) hk1 hx
    exact does_val hk fun w' => by simp [execOp, ho, resolve, invoke, builtin, hv, Builtin.len_, run_underlying ht, goInt]
  · obtain ⟨xs, ad, cap, sz, b, off, vs, hk, hv, _⟩ := gList_rep (x := .val (.slice none 0 0)) (k := fun xs => k (.val (.int .i64 xs.length))) hk1 hx
    exact does_val hk fun w' => by simp [execOp, ho, resolve, invoke, builtin, hv, Builtin.len_, run_underlying ht, goInt]
  · exact hk1.no

/-- where a pointer leads -/
theorem ptr_rep (hB : BoxesOk B w F tok fr box bx) {x : AV} {v : Value} {k : List AV → Prop}
    (h : ptrCells bx x k) (hx : RepT B w F tok fr box x v) : ∃ (cs : List AV) (b off : Nat) (vs : Nat → Value), k cs ∧ v = .pointer (some ⟨b, off, none⟩) ∧
      ∀ (j : Nat) c, cs[j]? = some c → w.cell? ⟨b, off + j, none⟩ = some (vs j) ∧ (vs j).oneCell' = true ∧ Rep B w F tok fr box c (vs j) := by
  unfold ptrCells at h
  split at h
  · rename_i cs
    cases hx.rptr_inv with
    | rptr _ b off vs hF hc hr => exact ⟨cs, b, off, vs, h, rfl, fun j c hj => ⟨(hc j c hj).1, (hc j c hj).2, (hr j c hj).later (Later.refl w F tok fr) (by simp)⟩⟩
  · rename_i j off
    obtain ⟨b, cap, hb, rfl⟩ := hx.bptr_inv
    split at h
    · rename_i rk cs hbx
      obtain ⟨c, t, hh, hs, hc, _⟩ := hB j _ _ hb hbx
      refine ⟨_, b, off, fun i => c.getD (off + i) undef, h, rfl, fun i y hy => ?_⟩
      rw [List.getElem?_drop] at hy
      have hlt := getElem?_lt hy
      refine ⟨?_, (hc _ y hy).2, (hc _ y hy).1⟩
      have hlt' : off + i < c.size := by omega
      simp [World.cell?, hh, hlt', Array.getD]
    · exact h.no
  · exact h.no

theorem cells_agg (P : Program) {b off : Nat} {vs : Nat → Value} {cs : List AV} {n : Nat} (hn : n ≤ cs.length)
    (hc : ∀ (j : Nat) c, cs[j]? = some c → w.cell? ⟨b, off + j, none⟩ = some (vs j) ∧ (vs j).oneCell' = true ∧ Rep B w F tok fr box c (vs j)) :
    Rep B w F tok fr box (.agg (cs.take n)) (.agg ((List.range n).map vs).toArray) ∧
    ∀ w', Below w.heap.size w w' → (loadCells ⟨b, off, none⟩ n).run P w' = .ok ((List.range n).map vs).toArray w' := by
  have hget : ∀ i, i < n → (((List.range n).map vs).toArray).getD i undef = vs i := fun i hi => by simp [Array.getD, hi]
  have hsome : ∀ i, i < n → ∃ c, cs[i]? = some c := fun i hi => ⟨cs[i]'(by omega), by simp⟩
  constructor
  · refine .agg _ _ (by simp [hn]) (fun i hi => ?_) (fun i c hi => ?_)
    · have hi' : i < n := by simpa using hi
      rw [hget i hi']
      obtain ⟨c, h⟩ := hsome i hi'
      exact (hc i c h).2.1
    · rw [List.getElem?_take] at hi
      split at hi
      · rename_i hlt; rw [hget i hlt]; exact (hc i c hi).2.2
      · cases hi
  · intro w' hw
    refine run_loadCells w' ⟨b, off, none⟩ n vs (fun j hj => ?_)
    obtain ⟨c, h⟩ := hsome j hj
    have h1 := (hc j c h).1
    rw [Addr.add_lit, hw.cell (World.block_lt_of_cell? w _ h1)]
    exact h1

theorem does_load (he : EnvOk B w F tok fr box e a) (hB : BoxesOk B w F tok fr box bx) {t : TypeId} {x : Operand} {k : AV → Prop} (ho : o.op = .load t x) (hok : okTy P t = true)
    (h : evG true e x fun x => ptrCells bx x fun cs => takeAV (aggTy P t) (P.cellsOf t) cs k) : Does P B w F tok fr box a o k := by
  obtain ⟨xv, hk1, hx⟩ := evG_sound he h
  obtain ⟨cs, b, off, vs, hk, hv, hc⟩ := ptr_rep hB hk1 hx
  simp only [okTy, Bool.and_eq_true, Option.isSome_iff_exists] at hok
  obtain ⟨⟨d, hd⟩, ⟨i, hi⟩⟩ := hok
  have hsz : P.cellsOf t = i.size := by simp [Program.cellsOf, hi]
  unfold takeAV at hk
  split at hk
  · rename_i hag
    obtain ⟨hn, hk⟩ := hk
    obtain ⟨h1, h2⟩ := cells_agg P hn hc
    refine ⟨_, _, hk, .rep _ _ h1, fun w' hw => ?_⟩
    have h3 := h2 w' hw
    rw [hsz] at h3 ⊢
    unfold aggTy at hag
    rw [hd] at hag
    cases d <;> simp at hag <;> simp [execOp, ho, hv, Instr.loadAt, Instr.sureAddr, loadVar, isAgg, run_underlying hd, sizeOf, typeInfo, hi, h3]
  · rename_i hag
    split at hk
    · rename_i c cs'
      obtain ⟨h1, _, h3⟩ := hc 0 c (by simp)
      refine ⟨_, _, hk, .rep _ _ h3, fun w' hw => ?_⟩
      have h4 : w'.cell? ⟨b, off, none⟩ = some (vs 0) := by
        have h5 := hw.cell (World.block_lt_of_cell? w _ h1)
        rw [h1] at h5; simpa using h5
      unfold aggTy at hag
      rw [hd] at hag
      cases d <;> simp at hag <;> simp [execOp, ho, hv, Instr.loadAt, Instr.sureAddr, loadVar, isAgg, run_underlying hd, h4]
    · exact hk.no

theorem does_fadr (he : EnvOk B w F tok fr box e a) {t : TypeId} {x : Operand} {i : Nat} {f : Field} {k : AV → Prop} (ho : o.op = .fieldAddr t x i) (hf : structOff P t i = some f) (hz : P.cellsOf f.type ≠ 0)
    (h : evG true e x fun x => fadrK f.offset x k) : Does P B w F tok fr box a o k := by
  obtain ⟨xv, hk, hx⟩ := evG_sound he h
  unfold structOff at hf
  split at hf
  · rename_i fs hfs
    have hi : ∃ i, P.info? f.type = some i ∧ i.size ≠ 0 := by
      unfold Program.cellsOf at hz
      cases hi : P.info? f.type with
      | none => simp [hi] at hz
      | some i => exact ⟨i, rfl, by simpa [hi] using hz⟩
    obtain ⟨ti, hi, hs⟩ := hi
    have run : ∀ b off w', a.eval x = .pointer (some ⟨b, off, none⟩) → (execOp a.eval o).run P w' = .ok (.value (.pointer (some ⟨b, off + f.offset, none⟩))) w' := fun b off w' hv => by
      simp [execOp, ho, hv, Instr.fieldAt, run_underlying hfs, hf, Instr.sureAddr, fieldPlace, sizeOf, typeInfo, hi, hs, Addr.add_lit]
    unfold fadrK at hk
    split at hk
    · rename_i cs
      generalize hv : a.eval x = v at hx
      cases hx.rptr_inv with
      | rptr _ b off vs hF hc hr =>
        refine ⟨_, _, hk, .rep _ _ (.rptr (cs.drop f.offset) b (off + f.offset) (fun j => vs (f.offset + j)) (fun hne => ?_) (fun j c hj => ?_) (fun j c hj => ?_)), fun w' _ => run b off w' hv⟩
        · have hl : f.offset < cs.length := by
            rcases Nat.lt_or_ge f.offset cs.length with h | h
            · exact h
            · exact absurd (List.drop_eq_nil_of_le h) hne
          have := hF (by intro h0; subst h0; simp at hl)
          simp only [List.length_drop]; omega
        · rw [List.getElem?_drop] at hj
          have := hc _ c hj
          rwa [← Nat.add_assoc] at this
        · rw [List.getElem?_drop] at hj
          exact hr _ c hj
    · rename_i j off
      obtain ⟨b, cap, hb, hv⟩ := hx.bptr_inv
      exact ⟨_, _, hk, .rep _ _ (.bptr _ _ b cap hb), fun w' _ => run b off w' hv⟩
    · exact hk.no
  · cases hf
end
end Abs
end Go.Proofs.Ytamcaplpgmloiaa
