/-
  The operations that leave memory alone do what the evaluator says of them.
  The operations that leave memory alone do what the evaluator says of them: one law an operation.
  The operations that leave memory alone: the rest of the laws, and all of them in one.
  The operations that leave memory alone, all in one law; and that the evaluator always goes on to some value.
  The evaluator always goes on to some value; what a state says of a frame and a world ('Sim').
  The operations that make memory or write into the call's own.
  What a call of a function hands back ('ARet', 'ORet', 'TRet'), and the steps from one state to the next.
  Writing into the call's own variables, and appending to its own slices.
-/
import Derived.Test.YtkbblglbbfdnpaaK1
import Derived.WalkLawsBesides
import Derived.Lib.Strings
namespace Go.Proofs.Ytkbblglbbfdnpaa
namespace Abs
open Go.RowKit

/-- What is known of the slots. -/
def EnvOk (B : Nat) (w : World) (F : Nat → Nat) (tok : List (Option Nat)) (fr : Fr) (box : List BId) (e : Env) (a : Act) : Prop :=
  ∀ i, RepT B w F tok fr box (look e i) (a.tmps.getD i undef)

section
variable {P : Program} {B : Nat} {w : World} {F : Nat → Nat} {tok : List (Option Nat)} {fr : Fr} {box : List BId} {bx : List ABox} {e : Env} {a : Act}

theorem constAV_rep (v : Value) : Rep B w F tok fr box (constAV v) v := by
  cases v <;> first | exact .val _ | exact .str _

theorem ev_sound (he : EnvOk B w F tok fr box e a) (x : Operand) : RepT B w F tok fr box (ev e x) (a.eval x) := by
  cases x with
  | tmp t => exact he t
  | const v => exact .rep _ _ (constAV_rep v)
  | global g => exact .rep _ _ (.val _)
  | func f => exact .rep _ _ (.clo f [] [] #[] #[] rfl rfl (by simp) (by simp))

theorem forceK_eq {x : AV} {k : AV → Prop} : forceK x k = k x := by
  cases x with
  | list o xs => cases o <;> rfl
  | _ => rfl
theorem forceEnv_eq {e : Env} : ∀ {K : List Nat} {k : Env → Prop}, forceEnv e K k = k (norm e K)
  | [], _ => rfl
  | i :: K, k => by rw [forceEnv, forceK_eq, forceEnv_eq]; rfl
theorem forceBx_eq : ∀ {b : List ABox} {k : List ABox → Prop}, forceBx b k = k b
  | [], _ => rfl
  | .cells rk cs :: r, k => by rw [forceBx, forceBx_eq]
  | .dead :: r, k => by rw [forceBx, forceBx_eq]
  | .iter s p :: r, k => by rw [forceBx, forceBx_eq]
  | .map m :: r, k => by rw [forceBx, forceBx_eq]
  | .vmap kk vk m :: r, k => by rw [forceBx, forceBx_eq]

theorem unG_sound {x : AV} {v : Value} {k : AV → Prop} (h : unG true x k) (hx : RepT B w F tok fr box x v) : ∃ y, k y ∧ RepT B w F tok fr box y v := by
  cases x with
  | cond g y =>
    obtain ⟨hg, hk⟩ := (h : Need _ _)
    exact ⟨y, hk, hx.cond_inv.1 (hg rfl)⟩
  | _ => exact ⟨_, h, hx⟩

theorem unG_ex {gd : Bool} {x : AV} {k : AV → Prop} (h : unG gd x k) : ∃ y, k y := by
  cases x with
  | cond g y => obtain ⟨_, hk⟩ := (h : Need _ _); exact ⟨y, hk⟩
  | _ => exact ⟨_, h⟩

theorem evG_sound (he : EnvOk B w F tok fr box e a) {x : Operand} {k : AV → Prop} (h : evG true e x k) : ∃ y, k y ∧ RepT B w F tok fr box y (a.eval x) :=
  unG_sound h (ev_sound he x)

theorem Stop.no {p : Prop} (h : Stop) : p := by cases h

theorem gInt_inv {x : AV} {k : IntKind → Int → Prop} (h : gInt x k) : ∃ kd n, x = .val (.int kd n) ∧ k kd n := by
  unfold gInt at h; split at h
  · exact ⟨_, _, rfl, h⟩
  · cases h
theorem gBool_inv {x : AV} {k : Bool → Prop} (h : gBool x k) : ∃ b, x = .val (.bool b) ∧ k b := by
  unfold gBool at h; split at h
  · exact ⟨_, rfl, h⟩
  · cases h
theorem gList_inv {x : AV} {k : List (List AV) → Prop} (h : gList x k) : (∃ o xs, x = .list o xs ∧ k xs) ∨ (x = .val (.slice none 0 0) ∧ k []) := by
  unfold gList at h; split at h
  · exact .inl ⟨_, _, rfl, h⟩
  · exact .inr ⟨rfl, h⟩
  · cases h

theorem gList_self {x : AV} {k : List (List AV) → Prop} (h : gList x k) : gList x fun xs => k xs ∧ ∀ k', gList x k' → k' xs := by
  rcases gList_inv h with ⟨o, xs, rfl, hk⟩ | ⟨rfl, hk⟩
  · exact ⟨hk, fun _ h => h⟩
  · exact ⟨hk, fun _ h => h⟩

/-- A list read as a slice. -/
theorem gList_rep {x : AV} {k : List (List AV) → Prop} {v : Value} (h : gList x k) (hx : RepT B w F tok fr box x v) :
    ∃ (xs : List (List AV)) (a : Option Addr) (cap sz b off : Nat) (vs : Nat → Nat → Value), k xs ∧ v = .slice a xs.length cap ∧ xs.length ≤ cap ∧ (xs ≠ [] → a = some ⟨b, off, none⟩) ∧ (∀ e ∈ xs, e.length = sz) ∧
      (xs ≠ [] → off + xs.length * sz ≤ F b) ∧ (∀ i e j c, xs[i]? = some e → e[j]? = some c → w.cell? ⟨b, off + i * sz + j, none⟩ = some (vs i j) ∧ (vs i j).oneCell' = true) ∧
      (∀ i e j c, xs[i]? = some e → e[j]? = some c → Rep B w F tok fr [] c (vs i j)) := by
  rcases gList_inv h with ⟨o, xs, rfl, hk⟩ | ⟨rfl, hk⟩
  · cases hx.list_inv with
    | list _ _ a cap sz b off vs hcap ha hsz hF hc hr ho => exact ⟨xs, a, cap, sz, b, off, vs, hk, rfl, hcap, ha, hsz, hF, hc, hr⟩
  · cases hx.val_inv
    exact ⟨[], none, 0, 0, 0, 0, fun _ _ => undef, hk, rfl, Nat.le_refl _, fun h => (h rfl).elim, by simp, fun h => (h rfl).elim, by simp, by simp⟩

/-- the value of an operation, in every world that goes on from w -/
def Gives (P : Program) (a : Act) (o : Oper) (w : World) (v : Value) : Prop :=
  ∀ w', Below w.heap.size w w' → (execOp a.eval o).run P w' = .ok (.value v) w'

theorem gStr_inv {x : AV} {k : Str → Prop} (h : gStr x k) : ∃ s, x = .str s ∧ k s := by
  unfold gStr at h; split at h
  · exact ⟨_, rfl, h⟩
  · cases h

end
end Abs
end Go.Proofs.Ytkbblglbbfdnpaa
namespace Go.Proofs.Ytkbblglbbfdnpaa
namespace Abs
open Go.RowKit

section
variable {P : Program} {B : Nat} {w : World} {F : Nat → Nat} {tok : List (Option Nat)} {fr : Fr} {box : List BId} {bx : List ABox} {e : Env} {a : Act} {o : Oper}

/-- what an operation of this kind has to do -/
def Does (P : Program) (B : Nat) (w : World) (F : Nat → Nat) (tok : List (Option Nat)) (fr : Fr) (box : List BId) (a : Act) (o : Oper) (k : AV → Prop) : Prop :=
  ∃ x v, k x ∧ RepT B w F tok fr box x v ∧ Gives P a o w v

theorem does_val {k : AV → Prop} {v : Value} (hk : k (.val v)) (h : ∀ w', (execOp a.eval o).run P w' = .ok (.value v) w') : Does P B w F tok fr box a o k :=
  ⟨_, v, hk, .rep _ _ (.val v), fun w' _ => h w'⟩

theorem does_mv (he : EnvOk B w F tok fr box e a) {x : Operand} {k : AV → Prop} (ho : o.op = .move x ∨ o.op = .assign x) (h : evG true e x k) : Does P B w F tok fr box a o k := by
  obtain ⟨y, hk, hy⟩ := evG_sound he h
  exact ⟨y, _, hk, hy, fun w' _ => by rcases ho with ho | ho <;> simp [execOp, ho]⟩

theorem does_and (he : EnvOk B w F tok fr box e a) {c x : Operand} {k : AV → Prop} (ho : o.op = .pick c x (.const (.bool false)))
    (h : evG true e c fun c => gBool c fun c => evG (true && c) e x fun a => gBool a fun a => k (.val (.bool (c && a)))) : Does P B w F tok fr box a o k := by
  obtain ⟨y, hk, hy⟩ := evG_sound he h
  obtain ⟨b, rfl, hk⟩ := gBool_inv hk
  have hc := hy.val_inv
  cases b with
  | true =>
    obtain ⟨y, hk, hy⟩ := evG_sound he hk
    obtain ⟨b, rfl, hq⟩ := gBool_inv hk
    exact does_val (v := .bool b) (by simpa using hq) fun w' => by simp only [execOp, ho, hc, hy.val_inv]; rfl
  | false =>
    obtain ⟨y, hk⟩ := unG_ex hk
    obtain ⟨b, _, hq⟩ := gBool_inv hk
    exact does_val (v := .bool false) (by simpa using hq) fun w' => by simp only [execOp, ho, hc]; rfl

theorem does_or (he : EnvOk B w F tok fr box e a) {c x : Operand} {k : AV → Prop} (ho : o.op = .pick c (.const (.bool true)) x)
    (h : evG true e c fun c => gBool c fun c => evG (true && !c) e x fun a => gBool a fun a => k (.val (.bool (c || a)))) : Does P B w F tok fr box a o k := by
  obtain ⟨y, hk, hy⟩ := evG_sound he h
  obtain ⟨b, rfl, hk⟩ := gBool_inv hk
  have hc := hy.val_inv
  cases b with
  | false =>
    obtain ⟨y, hk, hy⟩ := evG_sound he hk
    obtain ⟨b, rfl, hq⟩ := gBool_inv hk
    exact does_val (v := .bool b) (by simpa using hq) fun w' => by simp only [execOp, ho, hc, hy.val_inv]; rfl
  | true =>
    obtain ⟨y, hk⟩ := unG_ex hk
    obtain ⟨b, _, hq⟩ := gBool_inv hk
    exact does_val (v := .bool true) (by simpa using hq) fun w' => by simp only [execOp, ho, hc]; rfl

theorem does_not (he : EnvOk B w F tok fr box e a) {t : TypeId} {x : Operand} {k : AV → Prop} (ho : o.op = .unOp .not t x)
    (h : evG true e x fun x => gBool x fun x => k (.val (.bool !x))) : Does P B w F tok fr box a o k := by
  obtain ⟨y, hk, hy⟩ := evG_sound he h
  obtain ⟨b, rfl, hk⟩ := gBool_inv hk
  exact does_val hk fun w' => by simp [execOp, ho, hy.val_inv, Op.unary]

theorem does_neg (he : EnvOk B w F tok fr box e a) {t : TypeId} {x : Operand} {k : AV → Prop} (ho : o.op = .unOp .neg t x)
    (h : evG true e x fun x => gInt x fun kd n => k (.val (.int kd (kd.wrap (-n))))) : Does P B w F tok fr box a o k := by
  obtain ⟨y, hk, hy⟩ := evG_sound he h
  obtain ⟨kd, n, rfl, hk⟩ := gInt_inv hk
  exact does_val hk fun w' => by simp [execOp, ho, hy.val_inv, Op.unary, Op.intArith]

theorem does_conv (he : EnvOk B w F tok fr box e a) {s d : TypeId} {x : Operand} {kd : IntKind} {ks : IntKind} {k : AV → Prop} (ho : o.op = .convert s d x)
    (hs : P.underlying s = some (.int ks)) (hd : P.underlying d = some (.int kd))
    (h : evG true e x fun x => gInt x fun _ n => k (.val (.int kd (kd.wrap n)))) : Does P B w F tok fr box a o k := by
  obtain ⟨y, hk, hy⟩ := evG_sound he h
  obtain ⟨kk, n, rfl, hk⟩ := gInt_inv hk
  exact does_val hk fun w' => by simp [execOp, ho, hy.val_inv, convert, run_underlying hs, run_underlying hd, Conv.intToInt]

theorem sh_run (op : BinOp) (t : TypeId) (k k' : IntKind) (x y : Int) (K : Value → Prop)
    (h : (op = .shl ∧ 0 ≤ y ∧ K (.int k (k.wrap (x * 2 ^ (min y.toNat k.bits))))) ∨ (op = .shr ∧ 0 ≤ y ∧ K (.int k (x.fdiv (2 ^ (min y.toNat k.bits)))))) :
    ∃ v, K v ∧ ∀ w', (binOp op t (.int k x) (.int k' y)).run P w' = .ok v w' := by
  rcases h with ⟨rfl, h0, hk⟩ | ⟨rfl, h0, hk⟩ <;> exact ⟨_, hk, fun w' => by simp [binOp, Op.shift, Int.not_lt.2 h0]⟩

theorem int_run (op : BinOp) (t : TypeId) (k : IntKind) (x y : Int) (K : Value → Prop) (h : aInt op k x y K) :
    ∃ v, K v ∧ ∀ w', (binOp op t (.int k x) (.int k y)).run P w' = .ok v w' := by
  cases op <;> simp only [aInt] at h
  case quo => obtain ⟨hy, hk⟩ := h; exact ⟨_, hk, fun w' => by simp [binOp, Op.intDiv, hy]⟩
  case rem => obtain ⟨hy, hk⟩ := h; exact ⟨_, hk, fun w' => by simp [binOp, Op.intDiv, hy]⟩
  all_goals first
    | exact h.no
    | exact ⟨_, h, fun w' => by simp only [binOp, Op.intArith, Op.intCmp, Op.intBits, ne_eq, not_true_eq_false, if_false]; rfl⟩

theorem size_data (s : ByteArray) : s.size = s.data.toList.length := rfl

theorem append_data (a b : ByteArray) : a ++ b = ⟨(a.data.toList ++ b.data.toList).toArray⟩ := by
  apply ByteArray.ext
  simp

theorem str_run (op : BinOp) (t : TypeId) (x y : Str) (K : AV → Prop) (h : aStr op x y K) :
    ∃ z v, K z ∧ (∀ {B : Nat} {w : World} {F : Nat → Nat} {tok : List (Option Nat)} {fr : Fr} {box : List BId}, Rep B w F tok fr box z v) ∧ ∀ w', (binOp op t (mkS x) (mkS y)).run P w' = .ok v w' := by
  cases op <;> simp only [aStr] at h
  case add =>
    obtain ⟨hy, hk⟩ := h
    refine ⟨_, _, hk, .str _, fun w' => ?_⟩
    have : ¬ (9223372036854775807 : Int) < ↑x.length + ↑y.length := by omega
    simp [binOp, Op.stringOp, mkS, this, append_data, ByteArray.size]
  all_goals first
    | exact h.no
    | exact ⟨_, _, h, .val _, fun w' => by simp [binOp, Op.stringOp, mkS]⟩

theorem does_bin (he : EnvOk B w F tok fr box e a) {op : BinOp} {t u : TypeId} {x y : Operand} {k : AV → Prop} (ho : o.op = .binOp op t x y u)
    (h : evG true e x fun x => evG true e y fun y => aBin op x y k) : Does P B w F tok fr box a o k := by
  obtain ⟨xv, hk1, hx⟩ := evG_sound he h
  obtain ⟨yv, hk2, hy⟩ := evG_sound he hk1
  unfold aBin at hk2
  split at hk2
  · rename_i kx xa
    split at hk2
    · rename_i ky ya
      have hsh : ∃ v, k (.val v) ∧ ∀ w', (binOp op t (.int kx xa) (.int ky ya)).run P w' = .ok v w' := by
        split at hk2
        · obtain ⟨h0, hk3⟩ := hk2; exact sh_run _ t _ _ _ _ (fun v => k (.val v)) (.inl ⟨rfl, h0, hk3⟩)
        · obtain ⟨h0, hk3⟩ := hk2; exact sh_run _ t _ _ _ _ (fun v => k (.val v)) (.inr ⟨rfl, h0, hk3⟩)
        · obtain ⟨rfl, hk3⟩ := hk2; exact int_run _ t _ _ _ _ hk3
      obtain ⟨v, hv, hr⟩ := hsh
      exact does_val hv fun w' => by simp [execOp, ho, hx.val_inv, hy.val_inv, eqGuard_at_int, hr]
    · exact hk2.no
  · rename_i xa
    split at hk2
    · rename_i ya
      obtain ⟨z, v, hz, hrep, hr⟩ := str_run (P := P) op t xa ya _ hk2
      refine ⟨z, v, hz, .rep _ _ hrep, fun w' _ => ?_⟩
      have h1 : eqGuard op t x y (mkS xa) (mkS ya) = pure () := eqGuard_at_string _ _ _ _ _ _
      simp [execOp, ho, hx.str_inv, hy.str_inv, h1, hr]
    · exact hk2.no
  · exact hk2.no

theorem eqFields_run {xs ys : Array Value} {d : Nat} : ∀ (fs : List Field) (ks : List Nat) (o : Nat) (cs ds : List AV) (k : Bool → Prop), kindsOf P o fs = some ks → xs.size = o + cs.length → ys.size = o + ds.length →
    (∀ (i : Nat) c, cs[i]? = some c → Rep B w F tok fr box c (xs.getD (o + i) undef)) → (∀ (i : Nat) c, ds[i]? = some c → Rep B w F tok fr box c (ys.getD (o + i) undef)) → eqC ks cs ds k →
    ∃ r, k r ∧ ∀ w', (Op.eqFields (d + 1) xs ys fs).run P w' = .ok r w'
  | [], ks, o, cs, ds, k, hk, _, _, _, _, h => by
    rw [kindsOf] at hk; cases hk
    exact ⟨true, h, fun w' => by simp [Op.eqFields]⟩
  | f :: fs, ks, o, cs, ds, k, hk, hx, hy, hrx, hry, h => by
    rw [kindsOf] at hk
    split at hk
    case isFalse => cases hk
    rename_i hc
    simp only [Bool.and_eq_true, bne_iff_ne, ne_eq, beq_iff_eq] at hc
    obtain ⟨hn, ho⟩ := hc
    have plain : ∀ {g : TypeDesc} {zs : Array Value} {u : Value}, P.underlying f.type = some g → (∀ fs', g ≠ .struct fs') → (∀ n e, g ≠ .array n e) → zs[o]? = some u → ∀ w', (part f.type zs f.offset).run P w' = .ok u w' := fun {g zs u} hg h1 h2 hz w' => by
      rw [ho]
      cases g <;> first | (simp [part, isAgg, run_underlying hg, hz]; done) | exact absurd rfl (h1 _) | exact absurd rfl (h2 _ _)
    have cell : ∀ {zs : Array Value} {es : List AV} {e : AV}, zs.size = o + (e :: es).length → zs[o]? = some (zs.getD o undef) := fun {zs es e} hz => by
      have hlt : o < zs.size := by rw [hz, List.length_cons]; omega
      simp [Array.getD, hlt]
    have next : ∀ {ks' : List Nat} {c e : AV} {cs' ds' : List AV} {b : Bool}, kindsOf P (o + 1) fs = some ks' → cs = c :: cs' → ds = e :: ds' → eqC ks' cs' ds' (fun r => k (b && r)) →
        ∃ r, k (b && r) ∧ ∀ w', (Op.eqFields (d + 1) xs ys fs).run P w' = .ok r w' := fun {ks' c e cs' ds' b} h1 h2 h3 h4 => by
      subst h2; subst h3
      refine eqFields_run fs ks' (o + 1) cs' ds' (fun r => k (b && r)) h1 (by rw [hx, List.length_cons]; omega) (by rw [hy, List.length_cons]; omega) (fun i c hi => ?_) (fun i c hi => ?_) h4
      · have := hrx (i + 1) c (by simpa using hi); rwa [show o + (i + 1) = o + 1 + i by omega] at this
      · have := hry (i + 1) c (by simpa using hi); rwa [show o + (i + 1) = o + 1 + i by omega] at this
    have fin : ∀ {g : TypeDesc} {u v : Value} {b r : Bool}, P.underlying f.type = some g → (∀ fs', g ≠ .struct fs') → (∀ n e, g ≠ .array n e) → xs[o]? = some u → ys[o]? = some v → (∀ w', (Op.equalIn (d + 1) f.type u v).run P w' = .ok b w') →
        (∀ w', (Op.eqFields (d + 1) xs ys fs).run P w' = .ok r w') → ∀ w', (Op.eqFields (d + 1) xs ys (f :: fs)).run P w' = .ok (b && r) w' := fun {g u v b r} hg h1 h2 hu hv he hr w' => by
      simp only [Op.eqFields, hn, not_false_eq_true, ne_eq, if_true, Sem.run_bind, plain hg h1 h2 hu w', plain hg h1 h2 hv w', Result.andThen_ok, he w']
      cases b
      · simp
      · simp [hr w']
    split at hk
    all_goals try (cases hk; done)
    all_goals rename_i hg
    all_goals obtain ⟨ks', hk', rfl⟩ := Option.map_eq_some_iff.1 hk
    all_goals (cases cs with | nil => exact Stop.no h | cons c cs => ?_)
    all_goals (cases ds with | nil => exact Stop.no h | cons e ds => ?_)
    · have h : gStr c fun a => gStr e fun b => eqC ks' cs ds fun r => k (a == b && r) := h
      obtain ⟨a, ha, h⟩ := gStr_inv h
      obtain ⟨b, hb, h⟩ := gStr_inv h
      subst ha; subst hb
      obtain ⟨r, h1, h2⟩ := next hk' rfl rfl h
      have e1 := hrx 0 _ rfl
      have e2 := hry 0 _ rfl
      rw [Nat.add_zero] at e1 e2
      have u1 : xs.getD o undef = mkS a := (RepT.rep _ _ e1).str_inv
      have u2 : ys.getD o undef = mkS b := (RepT.rep _ _ e2).str_inv
      refine ⟨_, h1, fin hg (by intro _ h; cases h) (by intro _ _ h; cases h) (cell hx) (cell hy) (fun w' => ?_) h2⟩
      rw [u1, u2, mkS, mkS, run_equalIn_string _ _ _ _ _ hg]
      simp
    · have h : gInt c fun k1 a => gInt e fun k2 b => Need (k1 = k2) (eqC ks' cs ds fun r => k (a == b && r)) := h
      obtain ⟨k1, a, ha, h5⟩ := gInt_inv h
      obtain ⟨k2, b, hb, h6⟩ := gInt_inv h5
      obtain ⟨hkk, h7⟩ := h6
      clear h h5
      subst ha; subst hb; subst hkk
      obtain ⟨r, h1, h2⟩ := next hk' rfl rfl h7
      have e1 := hrx 0 _ rfl
      have e2 := hry 0 _ rfl
      rw [Nat.add_zero] at e1 e2
      refine ⟨_, h1, fin hg (by intro _ h; cases h) (by intro _ _ h; cases h) (cell hx) (cell hy) (fun w' => ?_) h2⟩
      rw [e1.val_inv, e2.val_inv, run_equalIn_int _ _ _ _ _ _ _ hg]
    · have h : gBool c fun a => gBool e fun b => eqC ks' cs ds fun r => k (a == b && r) := h
      obtain ⟨a, ha, h⟩ := gBool_inv h
      obtain ⟨b, hb, h⟩ := gBool_inv h
      subst ha; subst hb
      obtain ⟨r, h1, h2⟩ := next hk' rfl rfl h
      have e1 := hrx 0 _ rfl
      have e2 := hry 0 _ rfl
      rw [Nat.add_zero] at e1 e2
      refine ⟨_, h1, fin hg (by intro _ h; cases h) (by intro _ _ h; cases h) (cell hx) (cell hy) (fun w' => ?_) h2⟩
      rw [e1.val_inv, e2.val_inv, run_equalIn_bool' _ _ _ _ _ hg]
theorem does_eqs (he : EnvOk B w F tok fr box e a) {op : BinOp} {t u : TypeId} {x y : Operand} {k : AV → Prop} {ne : Bool} {ks : List Nat} (ho : o.op = .binOp op t x y u) {fs : Array Field} (ht : P.underlying t = some (.struct fs))
    (hks : flatKinds P t = some ks) (hop : op = if ne then .neq else .eql) (h : evG true e x fun x => evG true e y fun y => eqsK ne ks x y k) : Does P B w F tok fr box a o k := by
  obtain ⟨xv, hk1, hx⟩ := evG_sound he h
  obtain ⟨yv, hk2, hy⟩ := evG_sound he hk1
  unfold eqsK at hk2
  split at hk2
  case h_2 => exact hk2.no
  rename_i cs
  split at hk2
  case h_2 => exact hk2.no
  rename_i ds
  unfold flatKinds at hks
  split at hks
  · cases hks
  rename_i hc
  simp only [Bool.or_eq_true, not_or, Bool.not_eq_true] at hc
  have hgx : ∃ xs : Array Value, a.eval x = .agg xs ∧ cs.length = xs.size ∧ ∀ (i : Nat) c, cs[i]? = some c → Rep B w F tok fr box c (xs.getD i undef) := by
    generalize a.eval x = u at hx
    cases hx.agg_inv with | agg _ xs hl _ hr => exact ⟨xs, rfl, hl, hr⟩
  have hgy : ∃ xs : Array Value, a.eval y = .agg xs ∧ ds.length = xs.size ∧ ∀ (i : Nat) c, ds[i]? = some c → Rep B w F tok fr box c (xs.getD i undef) := by
    generalize a.eval y = u at hy
    cases hy.agg_inv with | agg _ xs hl _ hr => exact ⟨xs, rfl, hl, hr⟩
  obtain ⟨xs, ex, lx, rx⟩ := hgx
  obtain ⟨ys, ey, ly, ry⟩ := hgy
  obtain ⟨r, hr, hrun⟩ := eqFields_run (P := P) (xs := xs) (ys := ys) (d := 9998) (P.fieldsOf t).toList ks 0 cs ds _ hks (by omega) (by omega) (fun i c hi => by rw [Nat.zero_add]; exact rx i c hi) (fun i c hi => by rw [Nat.zero_add]; exact ry i c hi) hk2
  have hS : P.underlying t = some (.struct (P.fieldsOf t)) := by rw [ht]; simp [Program.fieldsOf, ht]
  have heq : ∀ w', (Op.equalIn 10000 t (.agg xs) (.agg ys)).run P w' = .ok r w' := fun w' => by
    rw [show (10000 : Nat) = 9999 + 1 from rfl, run_equalIn_agg w' 9999 t xs ys hS hc.1]; exact hrun w'
  cases ne with
  | true =>
    have hop : op = .neq := hop
    subst hop
    exact does_val hr fun w' => by simp [execOp, ho, ex, ey, run_eqGuard_agg _ _ _ _ _ _ _ hc.2, run_neq_struct, heq w']
  | false =>
    have hop : op = .eql := hop
    subst hop
    exact does_val hr fun w' => by simp [execOp, ho, ex, ey, run_eqGuard_agg _ _ _ _ _ _ _ hc.2, run_eql_struct, heq w']
theorem does_binb (he : EnvOk B w F tok fr box e a) {op : BinOp} {t u : TypeId} {x y : Operand} {k : AV → Prop} (ho : o.op = .binOp op t x y u) (ht : P.underlying t = some .bool)
    (h : evG true e x fun x => evG true e y fun y => gBool x fun x => gBool y fun y => aBool op x y fun v => k (.val v)) : Does P B w F tok fr box a o k := by
  obtain ⟨xv, hk1, hx⟩ := evG_sound he h
  obtain ⟨yv, hk2, hy⟩ := evG_sound he hk1
  obtain ⟨x, rfl, hk3⟩ := gBool_inv hk2
  obtain ⟨y, rfl, hk⟩ := gBool_inv hk3
  cases op <;> simp only [aBool] at hk
  case eql => exact does_val hk fun w' => by simp [execOp, ho, hx.val_inv, hy.val_inv, eqGuard_at_bool, run_eql_bool _ t x y ht]
  case neq => exact does_val hk fun w' => by simp [execOp, ho, hx.val_inv, hy.val_inv, eqGuard_at_bool, run_neq_bool _ t x y ht]
  all_goals exact hk.no

theorem run_equal_nil (w : World) (t : TypeId) {el : TypeId} (ht : P.underlying t = some (.slice el)) (a : Option Addr) (n m : Nat) : (Op.equal t (.slice a n m) (.slice none 0 0)).run P w = .ok a.isNone w := by
  unfold Op.equal Op.maxDepth Op.equalIn
  simp only [Sem.run_bind, run_underlying ht, Result.andThen_ok]
  cases a <;> rfl

theorem does_nilq (he : EnvOk B w F tok fr box e a) {t u el : TypeId} {x : Operand} {ne : Bool} {k : AV → Prop} (ho : o.op = .binOp (if ne then .neq else .eql) t x (.const (.slice none 0 0)) u) (ht : P.underlying t = some (.slice el))
    (h : evG true e x fun x => nilK ne x k) : Does P B w F tok fr box a o k := by
  obtain ⟨xv, hk1, hx⟩ := evG_sound he h
  have fin : ∀ {ad : Option Addr} {n cap : Nat}, a.eval x = .slice ad n cap → k (.val (.bool (ad.isNone != ne))) → Does P B w F tok fr box a o k := fun {ad n cap} hv hk =>
    does_val hk fun w' => by
      have hc : a.eval (.const (.slice none 0 0)) = .slice none 0 0 := rfl
      cases ne <;> simp [execOp, ho, hv, hc, eqGuard_at_slice, binOp, run_equal_nil w' t ht]
  unfold nilK at hk1
  split at hk1
  · obtain ⟨hk⟩ := hk1
    generalize hv : a.eval x = v at hx
    have hx' := hx.list_inv
    cases hx' with
    | list _ _ ad cap sz b off vs hcap ha hsz hF hc hr hown =>
      refine fin hv (hk _ (fun hn => ?_))
      rename_i xs
      cases xs with
      | nil => rfl
      | cons y ys => rw [ha (by simp)] at hn; cases hn
  · obtain ⟨hk⟩ := hk1
    rcases hx.bsl_inv with ⟨b, cap, hb, _, hv⟩ | ⟨hb, rfl, hv⟩
    · exact fin hv (hk _ (fun hn => by cases hn))
    · exact fin hv (hk _ (fun _ => rfl))
  · exact fin hx.val_inv (by cases ne <;> exact hk1)
  · exact hk1.no

/-! maps of texts -/
section maps
variable {es : Array MapEntry} {clock : Nat} {m : List (Str × Str)}
theorem mkS_inj {a b : Str} (h : mkS a = mkS b) : a = b := by
  simp only [mkS, Value.string.injEq, ByteArray.mk.injEq] at h
  simpa using congrArg Array.toList h
theorem MapIs.empty : MapIs #[] 0 [] := ⟨MapKept.stamped_empty 0, rfl, Nat.zero_le _, by simp⟩
theorem MapIs.get (h : MapIs es clock m) {j : Nat} {x : MapEntry} (hx : es.toList[j]? = some x) : ∃ p, m[j]? = some p ∧ x.key = mkS p.1 ∧ x.val = mkS p.2 := by
  have h1 : (es.toList.map fun x => (x.key, x.val))[j]? = some (x.key, x.val) := by rw [List.getElem?_map, hx]; rfl
  rw [h.ent, List.getElem?_map] at h1
  obtain ⟨p, hp, e⟩ := Option.map_eq_some_iff.1 h1
  simp only [Prod.mk.injEq] at e
  exact ⟨p, hp, e.1.symm, e.2.symm⟩
theorem MapIs.keys (h : MapIs es clock m) : ∀ x ∈ es.toList, MapKept.IsKey .string x.key := fun x hx => by
  obtain ⟨j, hj⟩ := List.getElem?_of_mem hx
  obtain ⟨p, _, hk, _⟩ := h.get hj
  rw [hk]; exact trivial
theorem MapIs.nodup (h : MapIs es clock m) : (m.map (·.1)).Nodup := by
  have h1 := h.stamped.2.2
  have e : es.toList.map (·.key) = m.map (fun p => mkS p.1) := by
    have := congrArg (List.map Prod.fst) h.ent
    simpa [List.map_map, Function.comp_def] using this
  rw [e] at h1
  have h2 := List.pairwise_map.1 h1
  exact List.pairwise_map.2 (h2.imp fun hne e => hne (by rw [e]))
theorem mget_at : ∀ {m : List (Str × Str)} {j : Nat} {k v : Str}, (m.map (·.1)).Nodup → m[j]? = some (k, v) → mget m k = some v ∧ ∀ v', mput m k v' = m.set j (k, v')
  | [], _, _, _, _, h => by simp at h
  | p :: m, 0, k, v, _, h => by
    simp at h; subst h; simp [mget, mput]
  | p :: m, j + 1, k, v, hn, h => by
    simp only [List.map_cons, List.nodup_cons] at hn
    have h' : m[j]? = some (k, v) := by simpa using h
    have hne : p.1 ≠ k := fun e => hn.1 (e ▸ List.mem_map.2 ⟨(k, v), List.mem_of_getElem? h', rfl⟩)
    obtain ⟨h1, h2⟩ := mget_at hn.2 h'
    exact ⟨by simp [mget, hne, h1], fun v' => by simp [mput, hne, h2]⟩
theorem mget_no : ∀ {m : List (Str × Str)} {k : Str}, (∀ p ∈ m, p.1 ≠ k) → mget m k = none ∧ ∀ v, mput m k v = m ++ [(k, v)]
  | [], _, _ => ⟨rfl, fun _ => rfl⟩
  | p :: m, k, h => by
    obtain ⟨h1, h2⟩ := mget_no (m := m) (k := k) (fun q hq => h q (by simp [hq]))
    have hne := h p (by simp)
    exact ⟨by simp [mget, hne, h1], fun v => by simp [mput, hne, h2]⟩
theorem MapIs.find (h : MapIs es clock m) (k : Str) :
    (Instr.findNow .string (mkS k) es.toList 0 = some none ∧ (∀ x ∈ es.toList, x.key ≠ mkS k) ∧ ∀ p ∈ m, p.1 ≠ k) ∨
    ∃ j e v, Instr.findNow .string (mkS k) es.toList 0 = some (some (j, mkS v)) ∧ es.toList[j]? = some e ∧ e.key = mkS k ∧ m[j]? = some (k, v) := by
  rcases MapKept.findNow_spec (d := .string) (k := mkS k) trivial es.toList 0 h.keys with ⟨h1, h2⟩ | ⟨j, e, h1, h2, h3⟩
  · refine .inl ⟨h1, h2, fun p hp he => ?_⟩
    obtain ⟨j, hj⟩ := List.getElem?_of_mem hp
    have hl : es.toList.length = m.length := by have := congrArg List.length h.ent; simpa using this
    have hlt : j < es.toList.length := by have := getElem?_lt hj; omega
    have hx : es.toList[j]? = some es.toList[j] := List.getElem?_eq_getElem hlt
    obtain ⟨q, hq, hk, _⟩ := h.get hx
    rw [hj] at hq; cases hq
    exact h2 _ (List.mem_of_getElem? hx) (by rw [hk, he])
  · obtain ⟨p, hp, hk, hv⟩ := h.get h2
    have : p.1 = k := mkS_inj (by rw [← hk, h3])
    subst this
    exact .inr ⟨j, e, p.2, by rw [h1, hv, Nat.zero_add], h2, h3, hp⟩
theorem MapIs.length (h : MapIs es clock m) : es.size = m.length := by
  have := congrArg List.length h.ent; simpa using this
theorem MapIs.put (h : MapIs es clock m) {k v : Str} (hk : k.length ≤ maxLen) (hv : v.length ≤ maxLen) (hl : m.length < maxLen) :
    ((∀ p ∈ m, p.1 ≠ k) → (∀ x ∈ es.toList, x.key ≠ mkS k) → MapIs (es.push { key := mkS k, val := mkS v, born := clock }) (clock + 1) (mput m k v)) ∧
    ∀ j e u, es.toList[j]? = some e → e.key = mkS k → m[j]? = some (k, u) → MapIs (es.modify j fun e => { e with key := mkS k, val := mkS v }) clock (mput m k v) := by
  refine ⟨fun hm hx => ?_, fun j e u he hek hj => ?_⟩
  · rw [(mget_no hm).2]
    refine ⟨MapKept.stamped_push h.stamped hx, by simp [h.ent], by simp; omega, fun p hp => ?_⟩
    rcases List.mem_append.1 hp with hp | hp
    · exact h.len p hp
    · rw [List.mem_singleton.1 hp]; exact ⟨hk, hv⟩
  · rw [(mget_at h.nodup hj).2]
    refine ⟨MapKept.stamped_modify h.stamped j _ (fun _ _ => rfl) (fun x _ hx => ?_), ?_, by simpa using h.size, fun p hp => ?_⟩
    · have : es.toList[j]? = some x := by simpa using hx
      rw [he] at this; cases this; exact hek.symm
    · rw [Array.toList_modify]
      apply List.ext_getElem?
      intro i
      have h1 := congrArg (fun l => l[i]?) h.ent
      simp only [List.getElem?_map] at h1 ⊢
      rw [List.getElem?_modify, List.getElem?_set]
      by_cases hij : j = i
      · subst hij
        simp only [he, if_true, Option.map_some]
        rw [if_pos (getElem?_lt hj)]; rfl
      · simp only [hij, if_false]
        simpa using h1
    · rcases List.mem_or_eq_of_mem_set hp with hp | rfl
      · exact h.len p hp
      · exact ⟨hk, hv⟩
end maps
theorem strMap_inv {P : Program} {t : TypeId} (h : strMap P t = true) : ∃ k e, P.underlying t = some (.map k e) ∧ P.underlying k = some .string ∧ P.underlying e = some .string ∧ ∀ w : World, (zeroValue e).run P w = .ok (mkS []) w := by
  unfold strMap at h
  split at h
  · rename_i k e ht
    split at h
    · rename_i s hk he hz
      refine ⟨k, e, ht, hk, he, fun w => ?_⟩
      unfold zeroOf at hz
      split at hz
      · rename_i i hi
        have hs : s = ⟨[].toArray⟩ := by
          have h2 : s.data.toList = [] := by simpa using h
          rcases s with ⟨⟨l⟩⟩
          simp at h2; subst h2; rfl
        subst hs
        simp [zeroValue, typeInfo, hi, hz, mkS]
      · cases hz
    · cases h
  · cases h
theorem run_lookup_strs {P : Program} {w : World} {t kt et : TypeId} {b : Nat} {es : Array MapEntry} {clock : Nat} {m : List (Str × Str)} (ht : P.underlying t = some (.map kt et)) (hk : P.underlying kt = some .string)
    (hz : (zeroValue et).run P w = .ok (mkS []) w) (hb : w.heap[b]? = some (.map es clock)) (h : MapIs es clock m) (k : Str) (ok : Bool) :
    (Instr.lookup t (.map (some b)) (mkS k) ok).run P w = .ok (if ok then .tuple #[mkS ((mget m k).getD []), .bool (mget m k).isSome] else mkS ((mget m k).getD [])) w := by
  have hc : (Instr.checkKey es.isEmpty 10000 kt (mkS k)).run P w = .ok () w := MapKept.run_checkKey (d := .string) (k := mkS k) hk trivial _ 9999
  rcases h.find k with ⟨h1, _, h3⟩ | ⟨j, e, v, h1, _, _, h4⟩
  · have hf := MapKept.run_findKey (w := w) hk h1
    rw [(mget_no h3).1]
    simp [Instr.lookup, run_underlying ht, MapKept.run_getObj_map hb, hc, hf, hz, Result.andThen]
  · have hf := MapKept.run_findKey (w := w) hk h1
    rw [(mget_at h.nodup h4).1]
    simp [Instr.lookup, run_underlying ht, MapKept.run_getObj_map hb, hc, hf, Result.andThen]
theorem mbox_inv (hB : BoxesOk B w F tok fr box bx) {x : AV} {v : Value} {k : Nat → List (Str × Str) → Prop} (h : mbox bx x k) (hx : RepT B w F tok fr box x v) :
    ∃ j m b cap es clock, x = .bmap j ∧ bx[j]? = some (.map m) ∧ box[j]? = some (.blk b cap) ∧ v = .map (some b) ∧ w.heap[b]? = some (.map es clock) ∧ MapIs es clock m ∧ k j m := by
  unfold mbox at h
  split at h
  · rename_i j
    split at h
    · rename_i m hm
      have hx' := hx.plain (by simp)
      cases hx' with
      | bmap _ b cap hb =>
        obtain ⟨es, clock, h1, h2⟩ := hB j _ _ hb hm
        exact ⟨j, m, b, cap, es, clock, rfl, hm, hb, rfl, h1, h2, h⟩
    · exact h.no
  · exact h.no
theorem does_lookup (he : EnvOk B w F tok fr box e a) (hB : BoxesOk B w F tok fr box bx) {t : TypeId} {x y : Operand} {ok : Bool} {k : AV → Prop} (ho : o.op = .lookup t x y ok) (ht : strMap P t = true)
    (h : evG true e x fun x => evG true e y fun i => mbox bx x fun _ m => gStr i fun i => Need (true = true → i.length ≤ maxLen) (mgetK ok m i k)) : Does P B w F tok fr box a o k := by
  obtain ⟨xv, h, hx⟩ := evG_sound he h
  obtain ⟨yv, h, hy⟩ := evG_sound he h
  obtain ⟨j, m, b, cap, es, clock, rfl, hm, hb, hv, hh, hM, h⟩ := mbox_inv hB h hx
  obtain ⟨i, rfl, _, h⟩ := gStr_inv h
  obtain ⟨kt, et, h1, h2, h3, hz⟩ := strMap_inv ht
  have hyv := hy.str_inv
  have hrun : ∀ w', Below w.heap.size w w' → (execOp a.eval o).run P w' = .ok (.value (if ok then .tuple #[mkS ((mget m i).getD []), .bool (mget m i).isSome] else mkS ((mget m i).getD []))) w' := fun w' hw => by
    have hh' : w'.heap[b]? = some (.map es clock) := by rw [hw.block b (Array.getElem?_eq_some_iff.1 hh).1]; exact hh
    have := run_lookup_strs h1 h2 (hz w') hh' hM i ok
    simp only [execOp, ho, hv, hyv, Sem.run_bind, this, Result.andThen_ok, Sem.run_pure]
  unfold mgetK at h
  cases ok with
  | true =>
    refine ⟨_, _, h, .rep _ _ (.tup _ #[mkS ((mget m i).getD []), .bool (mget m i).isSome] rfl (fun i c hc => ?_)), hrun⟩
    match i, hc with
    | 0, hc => cases hc; exact .str _
    | 1, hc => cases hc; exact .val _
    | i + 2, hc => simp at hc
  | false => exact ⟨_, _, h, .rep _ _ (.str _), hrun⟩
/-! maps of other kinds -/
section vmaps
variable {es : Array MapEntry} {clock : Nat} {m : List (MA × MA)} {kk vk : MK}
theorem MA.val_inj {x y : MA} (h : x.val = y.val) : x = y := by
  cases x <;> cases y <;> simp only [MA.val, mkS, Value.int.injEq, Value.bool.injEq, Value.string.injEq, ByteArray.mk.injEq, reduceCtorEq] at h
  · rw [h.1, h.2]
  · rw [h]
  · exact congrArg MA.aStr (by simpa using congrArg Array.toList h)
theorem MA.isKey {x : MA} (h : x.kind = kk) : MapKept.IsKey kk.desc x.val := by
  subst h; cases x <;> first | exact trivial | exact rfl
theorem VMapIs.empty : VMapIs kk vk #[] 0 [] := ⟨MapKept.stamped_empty 0, rfl, by simp⟩
theorem VMapIs.get (h : VMapIs kk vk es clock m) {j : Nat} {x : MapEntry} (hx : es.toList[j]? = some x) : ∃ p, m[j]? = some p ∧ x.key = p.1.val ∧ x.val = p.2.val := by
  have h1 : (es.toList.map fun x => (x.key, x.val))[j]? = some (x.key, x.val) := by rw [List.getElem?_map, hx]; rfl
  rw [h.ent, List.getElem?_map] at h1
  obtain ⟨p, hp, e⟩ := Option.map_eq_some_iff.1 h1
  simp only [Prod.mk.injEq] at e
  exact ⟨p, hp, e.1.symm, e.2.symm⟩
theorem VMapIs.keys (h : VMapIs kk vk es clock m) : ∀ x ∈ es.toList, MapKept.IsKey kk.desc x.key := fun x hx => by
  obtain ⟨j, hj⟩ := List.getElem?_of_mem hx
  obtain ⟨p, hp, hk, _⟩ := h.get hj
  rw [hk]; exact MA.isKey (h.kinds p (List.mem_of_getElem? hp)).1
theorem VMapIs.nodup (h : VMapIs kk vk es clock m) : (m.map (·.1)).Nodup := by
  have h1 := h.stamped.2.2
  have e : es.toList.map (·.key) = m.map (fun p => p.1.val) := by
    have := congrArg (List.map Prod.fst) h.ent
    simpa [List.map_map, Function.comp_def] using this
  rw [e] at h1
  have h2 := List.pairwise_map.1 h1
  exact List.pairwise_map.2 (h2.imp fun hne e => hne (by rw [e]))
theorem vget_at : ∀ {m : List (MA × MA)} {j : Nat} {k v : MA}, (m.map (·.1)).Nodup → m[j]? = some (k, v) → vget m k = some v ∧ ∀ v', vput m k v' = m.set j (k, v')
  | [], _, _, _, _, h => by simp at h
  | p :: m, 0, k, v, _, h => by
    simp at h; subst h; simp [vget, vput]
  | p :: m, j + 1, k, v, hn, h => by
    simp only [List.map_cons, List.nodup_cons] at hn
    have h' : m[j]? = some (k, v) := by simpa using h
    have hne : p.1 ≠ k := fun e => hn.1 (e ▸ List.mem_map.2 ⟨(k, v), List.mem_of_getElem? h', rfl⟩)
    obtain ⟨h1, h2⟩ := vget_at hn.2 h'
    exact ⟨by simp [vget, hne, h1], fun v' => by simp [vput, hne, h2]⟩
theorem vget_no : ∀ {m : List (MA × MA)} {k : MA}, (∀ p ∈ m, p.1 ≠ k) → vget m k = none ∧ ∀ v, vput m k v = m ++ [(k, v)]
  | [], _, _ => ⟨rfl, fun _ => rfl⟩
  | p :: m, k, h => by
    obtain ⟨h1, h2⟩ := vget_no (m := m) (k := k) (fun q hq => h q (by simp [hq]))
    have hne := h p (by simp)
    exact ⟨by simp [vget, hne, h1], fun v => by simp [vput, hne, h2]⟩
theorem VMapIs.find (h : VMapIs kk vk es clock m) {k : MA} (hk : k.kind = kk) :
    (Instr.findNow kk.desc k.val es.toList 0 = some none ∧ (∀ x ∈ es.toList, x.key ≠ k.val) ∧ ∀ p ∈ m, p.1 ≠ k) ∨
    ∃ j e v, Instr.findNow kk.desc k.val es.toList 0 = some (some (j, v.val)) ∧ es.toList[j]? = some e ∧ e.key = k.val ∧ m[j]? = some (k, v) := by
  rcases MapKept.findNow_spec (MA.isKey hk) es.toList 0 h.keys with ⟨h1, h2⟩ | ⟨j, e, h1, h2, h3⟩
  · refine .inl ⟨h1, h2, fun p hp he => ?_⟩
    obtain ⟨j, hj⟩ := List.getElem?_of_mem hp
    have hl : es.toList.length = m.length := by have := congrArg List.length h.ent; simpa using this
    have hlt : j < es.toList.length := by have := getElem?_lt hj; omega
    have hx : es.toList[j]? = some es.toList[j] := List.getElem?_eq_getElem hlt
    obtain ⟨q, hq, hk, _⟩ := h.get hx
    rw [hj] at hq; cases hq
    exact h2 _ (List.mem_of_getElem? hx) (by rw [hk, he])
  · obtain ⟨p, hp, hk, hv⟩ := h.get h2
    have : p.1 = k := MA.val_inj (by rw [← hk, h3])
    subst this
    exact .inr ⟨j, e, p.2, by rw [h1, hv, Nat.zero_add], h2, h3, hp⟩
theorem VMapIs.length (h : VMapIs kk vk es clock m) : es.size = m.length := by
  have := congrArg List.length h.ent; simpa using this
theorem VMapIs.put (h : VMapIs kk vk es clock m) {k v : MA} (hk : k.kind = kk) (hv : v.kind = vk) :
    ((∀ p ∈ m, p.1 ≠ k) → (∀ x ∈ es.toList, x.key ≠ k.val) → VMapIs kk vk (es.push { key := k.val, val := v.val, born := clock }) (clock + 1) (vput m k v)) ∧
    ∀ j e u, es.toList[j]? = some e → e.key = k.val → m[j]? = some (k, u) → VMapIs kk vk (es.modify j fun e => { e with key := k.val, val := v.val }) clock (vput m k v) := by
  refine ⟨fun hm hx => ?_, fun j e u he hek hj => ?_⟩
  · rw [(vget_no hm).2]
    refine ⟨MapKept.stamped_push h.stamped hx, by simp [h.ent], fun p hp => ?_⟩
    rcases List.mem_append.1 hp with hp | hp
    · exact h.kinds p hp
    · rw [List.mem_singleton.1 hp]; exact ⟨hk, hv⟩
  · rw [(vget_at h.nodup hj).2]
    refine ⟨MapKept.stamped_modify h.stamped j _ (fun _ _ => rfl) (fun x _ hx => ?_), ?_, fun p hp => ?_⟩
    · have : es.toList[j]? = some x := by simpa using hx
      rw [he] at this; cases this; exact hek.symm
    · rw [Array.toList_modify]
      apply List.ext_getElem?
      intro i
      have h1 := congrArg (fun l => l[i]?) h.ent
      simp only [List.getElem?_map] at h1 ⊢
      rw [List.getElem?_modify, List.getElem?_set]
      by_cases hij : j = i
      · subst hij
        simp only [he, if_true, Option.map_some]
        rw [if_pos (getElem?_lt hj)]; rfl
      · simp only [hij, if_false]
        simpa using h1
    · rcases List.mem_or_eq_of_mem_set hp with hp | rfl
      · exact h.kinds p hp
      · exact ⟨hk, hv⟩
end vmaps
theorem mkOf_inv {P : Program} {t : TypeId} {k : MK} (h : mkOf P t = some k) : P.underlying t = some k.desc := by
  unfold mkOf at h
  split at h
  · rename_i e; cases h; exact e
  · rename_i e; cases h; exact e
  · rename_i e; cases h; exact e
  · cases h
theorem zeroIs_run {P : Program} {t : TypeId} {k : MK} (h : zeroIs P t k = true) (w : World) : (zeroValue t).run P w = .ok k.zero.val w := by
  have fin : ∀ z : Value, zeroOf P t = some z → (zeroValue t).run P w = .ok z w := fun z hz => by
    unfold zeroOf at hz
    split at hz
    · rename_i i hi
      simp [zeroValue, typeInfo, hi, hz]
    · cases hz
  cases k with
  | kInt k =>
    unfold zeroIs at h
    simp only at h
    split at h
    · rename_i k' n hz
      simp only [Bool.and_eq_true, decide_eq_true_eq] at h
      rw [h.1, h.2] at hz
      exact fin _ hz
    · cases h
  | kBool =>
    unfold zeroIs at h
    simp only at h
    split at h
    · rename_i x hz
      have : x = false := by simpa using h
      subst this
      exact fin _ hz
    · cases h
  | kStr =>
    unfold zeroIs at h
    simp only at h
    split at h
    · rename_i s hz
      have hs : s = ⟨[].toArray⟩ := by
        have h2 : s.data.toList = [] := by simpa using h
        rcases s with ⟨⟨l⟩⟩
        simp at h2; subst h2; rfl
      subst hs
      exact fin _ hz
    · cases h
theorem mapKinds_inv {P : Program} {t : TypeId} {q : MK × MK} (h : mapKinds P t = some q) : ∃ k e, P.underlying t = some (.map k e) ∧ P.underlying k = some q.1.desc ∧ ∀ w : World, (zeroValue e).run P w = .ok q.2.zero.val w := by
  unfold mapKinds at h
  split at h
  · rename_i k e ht
    split at h
    · rename_i a ha
      split at h
      · rename_i b hb
        split at h
        · rename_i hz
          cases h
          exact ⟨k, e, ht, mkOf_inv ha, zeroIs_run hz⟩
        · cases h
      · cases h
    · cases h
  · cases h
theorem run_lookup_v {P : Program} {w : World} {t kt et : TypeId} {b : Nat} {es : Array MapEntry} {clock : Nat} {m : List (MA × MA)} {kk vk : MK} (ht : P.underlying t = some (.map kt et)) (hk : P.underlying kt = some kk.desc)
    (hz : (zeroValue et).run P w = .ok vk.zero.val w) (hb : w.heap[b]? = some (.map es clock)) (h : VMapIs kk vk es clock m) {k : MA} (hkk : k.kind = kk) (ok : Bool) :
    (Instr.lookup t (.map (some b)) k.val ok).run P w = .ok (if ok then .tuple #[((vget m k).getD vk.zero).val, .bool (vget m k).isSome] else ((vget m k).getD vk.zero).val) w := by
  have hc : (Instr.checkKey es.isEmpty 10000 kt k.val).run P w = .ok () w := MapKept.run_checkKey hk (MA.isKey hkk) _ 9999
  rcases h.find hkk with ⟨h1, _, h3⟩ | ⟨j, e, v, h1, _, _, h4⟩
  · have hf := MapKept.run_findKey (w := w) hk h1
    rw [(vget_no h3).1]
    simp [Instr.lookup, run_underlying ht, MapKept.run_getObj_map hb, hc, hf, hz, Result.andThen]
  · have hf := MapKept.run_findKey (w := w) hk h1
    rw [(vget_at h.nodup h4).1]
    simp [Instr.lookup, run_underlying ht, MapKept.run_getObj_map hb, hc, hf, Result.andThen]
theorem vget_mem : ∀ {m : List (MA × MA)} {k v : MA}, vget m k = some v → ∃ p ∈ m, p.2 = v
  | p :: m, k, v, h => by
    unfold vget at h
    split at h
    · exact ⟨p, by simp, by simpa using h⟩
    · obtain ⟨q, hq, e⟩ := vget_mem h
      exact ⟨q, by simp [hq], e⟩
theorem vbox_inv (hB : BoxesOk B w F tok fr box bx) {kk vk : MK} {x : AV} {v : Value} {k : Nat → List (MA × MA) → Prop} (h : vbox bx kk vk x k) (hx : RepT B w F tok fr box x v) :
    ∃ j m b cap es clock, x = .bmap j ∧ bx[j]? = some (.vmap kk vk m) ∧ box[j]? = some (.blk b cap) ∧ v = .map (some b) ∧ w.heap[b]? = some (.map es clock) ∧ VMapIs kk vk es clock m ∧ k j m := by
  unfold vbox at h
  split at h
  · rename_i j
    split at h
    · rename_i kk' vk' m hm
      obtain ⟨rfl, rfl, h⟩ := h
      have hx' := hx.plain (by simp)
      cases hx' with
      | bmap _ b cap hb =>
        obtain ⟨es, clock, h1, h2⟩ := hB j _ _ hb hm
        exact ⟨j, m, b, cap, es, clock, rfl, hm, hb, rfl, h1, h2, h⟩
    · exact h.no
  · exact h.no
theorem gMA_inv {kk : MK} {x : AV} {v : Value} {k : MA → Prop} (h : gMA kk x k) (hx : RepT B w F tok fr box x v) : ∃ y : MA, y.kind = kk ∧ v = y.val ∧ k y := by
  unfold gMA at h
  split at h
  · rename_i kd
    obtain ⟨kd', n, rfl, e, h⟩ := gInt_inv h
    subst e
    exact ⟨.aInt kd' n, rfl, hx.val_inv, h⟩
  · obtain ⟨b, rfl, h⟩ := gBool_inv h
    exact ⟨.aBool b, rfl, hx.val_inv, h⟩
  · obtain ⟨s, rfl, h⟩ := gStr_inv h
    exact ⟨.aStr s, rfl, hx.str_inv, h⟩
theorem vgetK_rep {ok : Bool} {kk vk : MK} {es : Array MapEntry} {clock : Nat} {m : List (MA × MA)} (hM : VMapIs kk vk es clock m) {i : MA} {k : AV → Prop} (h : vgetK ok vk (vget m i) k) :
    ∃ y, k y ∧ RepT B w F tok fr box y (if ok then .tuple #[((vget m i).getD vk.zero).val, .bool (vget m i).isSome] else ((vget m i).getD vk.zero).val) := by
  have two : ∀ {x : AV} {v u : Value}, Rep B w F tok fr box x v → RepT B w F tok fr box (.tup [x, .val u]) (.tuple #[v, u]) := fun {x v u} hx => .rep _ _ (.tup _ _ rfl (fun i c hc => by
    match i, hc with
    | 0, hc => cases hc; exact hx
    | 1, hc => cases hc; exact .val _
    | i + 2, hc => simp at hc))
  have hkind : ∀ v, vget m i = some v → v.kind = vk := fun v hv => by
    obtain ⟨p, hp, rfl⟩ := vget_mem hv
    exact (hM.kinds p hp).2
  generalize vget m i = o at h hkind
  cases vk with
  | kInt kd =>
    have e : (o.getD (MK.kInt kd).zero).val = .int kd (intOf o) := by
      cases o with
      | none => rfl
      | some v => have := hkind v rfl; cases v <;> simp [MA.kind] at this; subst this; rfl
    rw [e]
    cases ok with
    | true => exact ⟨_, h, two (.val _)⟩
    | false => exact ⟨_, h, .rep _ _ (.val _)⟩
  | kBool =>
    have e : (o.getD MK.kBool.zero).val = .bool (boolOf o) := by
      cases o with
      | none => rfl
      | some v => have := hkind v rfl; cases v <;> simp [MA.kind] at this; rfl
    rw [e]
    cases ok with
    | true => exact ⟨_, h, two (.val _)⟩
    | false => exact ⟨_, h, .rep _ _ (.val _)⟩
  | kStr =>
    have e : (o.getD MK.kStr.zero).val = mkS (strOf o) := by
      cases o with
      | none => rfl
      | some v => have := hkind v rfl; cases v <;> simp [MA.kind] at this; rfl
    rw [e]
    cases ok with
    | true => exact ⟨_, h, two (.str _)⟩
    | false => exact ⟨_, h, .rep _ _ (.str _)⟩
theorem does_vlook (he : EnvOk B w F tok fr box e a) (hB : BoxesOk B w F tok fr box bx) {t : TypeId} {x y : Operand} {ok : Bool} {q : MK × MK} {k : AV → Prop} (ho : o.op = .lookup t x y ok) (ht : mapKinds P t = some q)
    (h : evG true e x fun x => evG true e y fun i => vbox bx q.1 q.2 x fun _ m => gMA q.1 i fun i => vgetK ok q.2 (vget m i) k) : Does P B w F tok fr box a o k := by
  obtain ⟨xv, h, hx⟩ := evG_sound he h
  obtain ⟨yv, h, hy⟩ := evG_sound he h
  obtain ⟨j, m, b, cap, es, clock, rfl, hm, hb, hv, hh, hM, h⟩ := vbox_inv hB h hx
  obtain ⟨i, hi, hyv, h⟩ := gMA_inv h hy
  obtain ⟨kt, et, h1, h2, hz⟩ := mapKinds_inv ht
  obtain ⟨r, hk, hr⟩ := vgetK_rep (B := B) (w := w) (F := F) (tok := tok) (fr := fr) (box := box) hM h
  refine ⟨_, _, hk, hr, fun w' hw => ?_⟩
  have hh' : w'.heap[b]? = some (.map es clock) := by rw [hw.block b (Array.getElem?_eq_some_iff.1 hh).1]; exact hh
  have := run_lookup_v h1 h2 (hz w') hh' hM hi ok
  simp only [execOp, ho, hv, hyv, Sem.run_bind, this, Result.andThen_ok, Sem.run_pure]
theorem mlenK_inv (hB : BoxesOk B w F tok fr box bx) {x : AV} {v : Value} {k : Nat → Prop} (h : mlenK bx x k) (hx : RepT B w F tok fr box x v) : ∃ b es clock, v = .map (some b) ∧ w.heap[b]? = some (.map es clock) ∧ k es.size := by
  unfold mlenK at h
  split at h
  · rename_i j
    have hx' := hx.plain (by simp)
    cases hx' with
    | bmap _ b cap hb =>
      split at h
      · rename_i m hm
        obtain ⟨es, clock, h1, h2⟩ := hB j _ _ hb hm
        exact ⟨b, es, clock, rfl, h1, by rw [h2.length]; exact h⟩
      · rename_i m hm
        obtain ⟨es, clock, h1, h2⟩ := hB j _ _ hb hm
        exact ⟨b, es, clock, rfl, h1, by rw [h2.length]; exact h⟩
      · exact h.no
  · exact h.no
theorem does_mlen (he : EnvOk B w F tok fr box e a) (hB : BoxesOk B w F tok fr box bx) {t kt et : TypeId} {x : Operand} {k : AV → Prop} (ho : o.op = .call { callee := .builtin .len, args := #[x], argTypes := #[t] })
    (ht : P.underlying t = some (.map kt et)) (h : evG true e x fun x => mlenK bx x fun n => k (.val (.int .i64 n))) : Does P B w F tok fr box a o k := by
  obtain ⟨xv, h, hx⟩ := evG_sound he h
  obtain ⟨b, es, clock, hv, hh, h⟩ := mlenK_inv hB h hx
  refine ⟨_, _, h, .rep _ _ (.val _), fun w' hw => ?_⟩
  have hh' : w'.heap[b]? = some (.map es clock) := by rw [hw.block b (Array.getElem?_eq_some_iff.1 hh).1]; exact hh
  simp [execOp, ho, resolve, invoke, builtin, hv, Builtin.len_, run_underlying ht, goInt, MapKept.run_getObj_map hh', Result.andThen]

theorem does_mm (he : EnvOk B w F tok fr box e a) {mx : Bool} {x y : Operand} {tys : Array TypeId} {k : AV → Prop} (ho : o.op = .call { callee := .builtin (if mx then .max else .min), args := #[x, y], argTypes := tys })
    (h : evG true e x fun x => evG true e y fun y => gInt x fun kd a => gInt y fun _ b => (match mx with | true => k (.val (.int kd (max a b))) | false => k (.val (.int kd (min a b))))) : Does P B w F tok fr box a o k := by
  obtain ⟨xv, h, hx⟩ := evG_sound he h
  obtain ⟨yv, h, hy⟩ := evG_sound he h
  obtain ⟨kd, a1, rfl, h⟩ := gInt_inv h
  obtain ⟨kd', b1, rfl, h⟩ := gInt_inv (x := yv) h
  have e1 : (if b1 > a1 then b1 else a1) = max a1 b1 := by omega
  have e2 : (if b1 < a1 then b1 else a1) = min a1 b1 := by omega
  cases mx with
  | true => exact does_val h fun w' => by rw [← e1]; simp [execOp, ho, resolve, invoke, builtin, hx.val_inv, hy.val_inv, Builtin.max_, Builtin.max2]
  | false => exact does_val h fun w' => by rw [← e2]; simp [execOp, ho, resolve, invoke, builtin, hx.val_inv, hy.val_inv, Builtin.min_, Builtin.min2]

theorem does_lenS (he : EnvOk B w F tok fr box e a) {t : TypeId} {x : Operand} {k : AV → Prop} (ho : o.op = .call { callee := .builtin .len, args := #[x], argTypes := #[t] })
    (ht : P.underlying t = some .string) (h : evG true e x fun x => lenK' true x fun n => k (.val (.int .i64 n))) : Does P B w F tok fr box a o k := by
  obtain ⟨xv, hk1, hx⟩ := evG_sound he h
  obtain ⟨s, rfl, hk⟩ := gStr_inv hk1
  have h5 : (((⟨s.toArray⟩ : ByteArray).size : Nat) : Int) = (s.length : Int) := rfl
  exact does_val hk fun w' => by rw [← h5]; simp [execOp, ho, resolve, invoke, builtin, hx.str_inv, mkS, Builtin.len_, run_underlying ht, goInt]

theorem does_lenL (he : EnvOk B w F tok fr box e a) {t el : TypeId} {x : Operand} {k : AV → Prop} (ho : o.op = .call { callee := .builtin .len, args := #[x], argTypes := #[t] })
    (ht : P.underlying t = some (.slice el)) (h : evG true e x fun x => lenK' false x fun n => k (.val (.int .i64 n))) : Does P B w F tok fr box a o k := by
  obtain ⟨xv, hk1, hx⟩ := evG_sound he h
  simp only [lenK'] at hk1
  split at hk1
  · rcases hx.bsl_inv with ⟨b, cap, hb, _, hv⟩ | ⟨hb, rfl, hv⟩ <;>
    exact does_val hk1 fun w' => by simp [execOp, ho, resolve, invoke, builtin, hv, Builtin.len_, run_underlying ht, goInt]
  · obtain ⟨xs, ad, cap, sz, b, off, vs, hk, hv, _⟩ := gList_rep (x := .list _ _) (k := fun xs => k (.val (.int .i64 xs.length))) hk1 hx
    exact does_val hk fun w' => by simp [execOp, ho, resolve, invoke, builtin, hv, Builtin.len_, run_underlying ht, goInt]
  · obtain ⟨xs, ad, cap, sz, b, off, vs, hk, hv, _⟩ := gList_rep (x := .val (.slice none 0 0)) (k := fun xs => k (.val (.int .i64 xs.length))) hk1 hx
    exact does_val hk fun w' => by simp [execOp, ho, resolve, invoke, builtin, hv, Builtin.len_, run_underlying ht, goInt]
  · exact hk1.no

/-- where a pointer leads -/
theorem ptr_rep (hB : BoxesOk B w F tok fr box bx) {x : AV} {v : Value} {k : List AV → Prop}
    (h : ptrCells bx x k) (hx : RepT B w F tok fr box x v) : ∃ (cs : List AV) (b off : Nat) (vs : Nat → Value), k cs ∧ v = .pointer (some ⟨b, off, none⟩) ∧
      ∀ (j : Nat) c, cs[j]? = some c → w.cell? ⟨b, off + j, none⟩ = some (vs j) ∧ (vs j).oneCell' = true ∧ Rep B w F tok fr box c (vs j) := by
  unfold ptrCells at h
  split at h
  · rename_i cs
    cases hx.rptr_inv with
    | rptr _ b off vs hF hc hr => exact ⟨cs, b, off, vs, h, rfl, fun j c hj => ⟨(hc j c hj).1, (hc j c hj).2, (hr j c hj).later (Later.refl w F tok fr) (by simp)⟩⟩
  · rename_i j off
    obtain ⟨b, cap, hb, rfl⟩ := hx.bptr_inv
    split at h
    · rename_i rk cs hbx
      obtain ⟨c, t, hh, hs, hc, _⟩ := hB j _ _ hb hbx
      refine ⟨_, b, off, fun i => c.getD (off + i) undef, h, rfl, fun i y hy => ?_⟩
      rw [List.getElem?_drop] at hy
      have hlt := getElem?_lt hy
      refine ⟨?_, (hc _ y hy).2, (hc _ y hy).1⟩
      have hlt' : off + i < c.size := by omega
      simp [World.cell?, hh, hlt', Array.getD]
    · exact h.no
  · exact h.no

theorem cells_agg (P : Program) {b off : Nat} {vs : Nat → Value} {cs : List AV} {n : Nat} (hn : n ≤ cs.length)
    (hc : ∀ (j : Nat) c, cs[j]? = some c → w.cell? ⟨b, off + j, none⟩ = some (vs j) ∧ (vs j).oneCell' = true ∧ Rep B w F tok fr box c (vs j)) :
    Rep B w F tok fr box (.agg (cs.take n)) (.agg ((List.range n).map vs).toArray) ∧
    ∀ w', Below w.heap.size w w' → (loadCells ⟨b, off, none⟩ n).run P w' = .ok ((List.range n).map vs).toArray w' := by
  have hget : ∀ i, i < n → (((List.range n).map vs).toArray).getD i undef = vs i := fun i hi => by simp [Array.getD, hi]
  have hsome : ∀ i, i < n → ∃ c, cs[i]? = some c := fun i hi => ⟨cs[i]'(by omega), by simp⟩
  constructor
  · refine .agg _ _ (by simp [hn]) (fun i hi => ?_) (fun i c hi => ?_)
    · have hi' : i < n := by simpa using hi
      rw [hget i hi']
      obtain ⟨c, h⟩ := hsome i hi'
      exact (hc i c h).2.1
    · rw [List.getElem?_take] at hi
      split at hi
      · rename_i hlt; rw [hget i hlt]; exact (hc i c hi).2.2
      · cases hi
  · intro w' hw
    refine run_loadCells w' ⟨b, off, none⟩ n vs (fun j hj => ?_)
    obtain ⟨c, h⟩ := hsome j hj
    have h1 := (hc j c h).1
    rw [Addr.add_lit, hw.cell (World.block_lt_of_cell? w _ h1)]
    exact h1

theorem does_load (he : EnvOk B w F tok fr box e a) (hB : BoxesOk B w F tok fr box bx) {t : TypeId} {x : Operand} {k : AV → Prop} (ho : o.op = .load t x) (hok : okTy P t = true)
    (h : evG true e x fun x => ptrCells bx x fun cs => takeAV (aggTy P t) (P.cellsOf t) cs k) : Does P B w F tok fr box a o k := by
  obtain ⟨xv, hk1, hx⟩ := evG_sound he h
  obtain ⟨cs, b, off, vs, hk, hv, hc⟩ := ptr_rep hB hk1 hx
  simp only [okTy, Bool.and_eq_true, Option.isSome_iff_exists] at hok
  obtain ⟨⟨d, hd⟩, ⟨i, hi⟩⟩ := hok
  have hsz : P.cellsOf t = i.size := by simp [Program.cellsOf, hi]
  unfold takeAV at hk
  split at hk
  · rename_i hag
    obtain ⟨hn, hk⟩ := hk
    obtain ⟨h1, h2⟩ := cells_agg P hn hc
    refine ⟨_, _, hk, .rep _ _ h1, fun w' hw => ?_⟩
    have h3 := h2 w' hw
    rw [hsz] at h3 ⊢
    unfold aggTy at hag
    rw [hd] at hag
    cases d <;> simp at hag <;> simp [execOp, ho, hv, Instr.loadAt, Instr.sureAddr, loadVar, isAgg, run_underlying hd, sizeOf, typeInfo, hi, h3]
  · rename_i hag
    split at hk
    · rename_i c cs'
      obtain ⟨h1, _, h3⟩ := hc 0 c (by simp)
      refine ⟨_, _, hk, .rep _ _ h3, fun w' hw => ?_⟩
      have h4 : w'.cell? ⟨b, off, none⟩ = some (vs 0) := by
        have h5 := hw.cell (World.block_lt_of_cell? w _ h1)
        rw [h1] at h5; simpa using h5
      unfold aggTy at hag
      rw [hd] at hag
      cases d <;> simp at hag <;> simp [execOp, ho, hv, Instr.loadAt, Instr.sureAddr, loadVar, isAgg, run_underlying hd, h4]
    · exact hk.no

theorem does_fadr (he : EnvOk B w F tok fr box e a) {t : TypeId} {x : Operand} {i : Nat} {f : Field} {k : AV → Prop} (ho : o.op = .fieldAddr t x i) (hf : structOff P t i = some f) (hz : P.cellsOf f.type ≠ 0)
    (h : evG true e x fun x => fadrK f.offset x k) : Does P B w F tok fr box a o k := by
  obtain ⟨xv, hk, hx⟩ := evG_sound he h
  unfold structOff at hf
  split at hf
  · rename_i fs hfs
    have hi : ∃ i, P.info? f.type = some i ∧ i.size ≠ 0 := by
      unfold Program.cellsOf at hz
      cases hi : P.info? f.type with
      | none => simp [hi] at hz
      | some i => exact ⟨i, rfl, by simpa [hi] using hz⟩
    obtain ⟨ti, hi, hs⟩ := hi
    have run : ∀ b off w', a.eval x = .pointer (some ⟨b, off, none⟩) → (execOp a.eval o).run P w' = .ok (.value (.pointer (some ⟨b, off + f.offset, none⟩))) w' := fun b off w' hv => by
      simp [execOp, ho, hv, Instr.fieldAt, run_underlying hfs, hf, Instr.sureAddr, fieldPlace, sizeOf, typeInfo, hi, hs, Addr.add_lit]
    unfold fadrK at hk
    split at hk
    · rename_i cs
      generalize hv : a.eval x = v at hx
      cases hx.rptr_inv with
      | rptr _ b off vs hF hc hr =>
        refine ⟨_, _, hk, .rep _ _ (.rptr (cs.drop f.offset) b (off + f.offset) (fun j => vs (f.offset + j)) (fun hne => ?_) (fun j c hj => ?_) (fun j c hj => ?_)), fun w' _ => run b off w' hv⟩
        · have hl : f.offset < cs.length := by
            rcases Nat.lt_or_ge f.offset cs.length with h | h
            · exact h
            · exact absurd (List.drop_eq_nil_of_le h) hne
          have := hF (by intro h0; subst h0; simp at hl)
          simp only [List.length_drop]; omega
        · rw [List.getElem?_drop] at hj
          have := hc _ c hj
          rwa [← Nat.add_assoc] at this
        · rw [List.getElem?_drop] at hj
          exact hr _ c hj
    · rename_i j off
      obtain ⟨b, cap, hb, hv⟩ := hx.bptr_inv
      exact ⟨_, _, hk, .rep _ _ (.bptr _ _ b cap hb), fun w' _ => run b off w' hv⟩
    · exact hk.no
  · cases hf
/-- a pointer that is no nil -/
theorem does_nil (he : EnvOk B w F tok fr box e a) {x : Operand} {k : AV → Prop} (ho : o.op = .nilCheck x) (h : evG true e x fun x => fadrK 0 x k) : Does P B w F tok fr box a o k := by
  obtain ⟨xv, hk, hx⟩ := evG_sound he h
  have run : ∀ b off w', a.eval x = .pointer (some ⟨b, off, none⟩) → (execOp a.eval o).run P w' = .ok (.value (.pointer (some ⟨b, off, none⟩))) w' := fun b off w' hv => by
    simp [execOp, ho, hv]
  unfold fadrK at hk
  split at hk
  · rename_i cs
    generalize hv : a.eval x = v at hx
    cases hx.rptr_inv with
    | rptr _ b off vs hF hc hr => exact ⟨_, _, hk, .rep _ _ (by rw [List.drop_zero]; exact .rptr cs b off vs hF hc hr), fun w' _ => run b off w' hv⟩
  · rename_i j off
    obtain ⟨b, cap, hb, hv⟩ := hx.bptr_inv
    exact ⟨_, _, hk, .rep _ _ (.bptr _ _ b cap hb), fun w' _ => run b off w' hv⟩
  · exact hk.no
end
end Abs
end Go.Proofs.Ytkbblglbbfdnpaa
namespace Go.Proofs.Ytkbblglbbfdnpaa
namespace Abs
open Go.RowKit

section
variable {P : Program} {B : Nat} {w : World} {F : Nat → Nat} {tok : List (Option Nat)} {fr : Fr} {box : List BId} {bx : List ABox} {e : Env} {a : Act} {o : Oper}

theorem does_field (he : EnvOk B w F tok fr box e a) {t : TypeId} {x : Operand} {i : Nat} {f : Field} {k : AV → Prop} (ho : o.op = .field t x i) (hf : structOff P t i = some f) (hok : okTy P f.type = true)
    (h : evG true e x fun x => match x with | .agg cs => takeAV (aggTy P f.type) (P.cellsOf f.type) (cs.drop f.offset) k | _ => Stop) : Does P B w F tok fr box a o k := by
  obtain ⟨xv, hk, hx⟩ := evG_sound he h
  simp only [okTy, Bool.and_eq_true, Option.isSome_iff_exists] at hok
  obtain ⟨⟨d, hd⟩, ⟨ti, hi⟩⟩ := hok
  have hsz : P.cellsOf f.type = ti.size := by simp [Program.cellsOf, hi]
  unfold structOff at hf
  split at hf
  · rename_i fs hfs
    split at hk
    · rename_i cs
      generalize hv : a.eval x = v at hx
      cases hx.agg_inv with
      | agg _ vs hlen h1 hr =>
        unfold takeAV at hk
        split at hk
        · rename_i hag
          obtain ⟨hn, hk⟩ := hk
          simp only [List.length_drop] at hn
          refine ⟨_, .agg (vs.extract f.offset (f.offset + P.cellsOf f.type)), hk, .rep _ _ (.agg _ _ (by simp; omega) (fun j hj => ?_) (fun j c hj => ?_)), fun w' _ => ?_⟩
          · simp only [Array.size_extract] at hj
            have : (vs.extract f.offset (f.offset + P.cellsOf f.type)).getD j undef = vs.getD (f.offset + j) undef := by
              simp [Array.getD, Array.getElem_extract]; split <;> split <;> first | rfl | omega
            rw [this]; exact h1 _ (by omega)
          · rw [List.getElem?_take] at hj
            split at hj
            · rw [List.getElem?_drop] at hj
              have hl := getElem?_lt hj
              have : (vs.extract f.offset (f.offset + P.cellsOf f.type)).getD j undef = vs.getD (f.offset + j) undef := by
                simp [Array.getD, Array.getElem_extract]; split <;> split <;> first | rfl | omega
              rw [this]; exact hr _ c hj
            · cases hj
          · unfold aggTy at hag
            rw [hd] at hag
            cases d <;> simp at hag <;> simp [execOp, ho, hv, Instr.field, run_underlying hfs, hf, part, isAgg, run_underlying hd, sizeOf, typeInfo, hi, hsz, asAgg]
        · rename_i hag
          split at hk
          · rename_i c cs' hcs
            have hc0 : cs[f.offset]? = some c := by
              have : (cs.drop f.offset)[0]? = some c := by rw [hcs]; rfl
              simpa [List.getElem?_drop] using this
            have hl := getElem?_lt hc0
            have hvs : vs[f.offset]? = some (vs.getD f.offset undef) := by
              have : f.offset < vs.size := by omega
              simp [Array.getD, this]
            refine ⟨_, vs.getD f.offset undef, hk, .rep _ _ (hr _ c hc0), fun w' _ => ?_⟩
            unfold aggTy at hag
            rw [hd] at hag
            cases d <;> simp at hag <;> simp only [execOp, ho, hv, Instr.field, run_underlying hfs, hf, part, isAgg, run_underlying hd, asAgg, Sem.run_bind, Sem.run_pure, Result.andThen_ok, hvs, Bool.false_eq_true, if_false]
          · exact hk.no
    · exact hk.no
  · cases hf

theorem goodElem_inv {t : TypeId} (h : goodElem P t = true) : ∃ el i z, P.underlying t = some (.slice el) ∧ P.info? el = some i ∧ i.zero = some z ∧ z.cells.size = i.size ∧ 0 < i.size ∧ i.size ≤ 64 ∧ elemTy P t = el ∧ P.cellsOf el = i.size := by
  unfold goodElem at h
  split at h
  · rename_i el hu
    split at h
    · rename_i i hi
      split at h
      · rename_i z hz
        simp only [Bool.and_eq_true, beq_iff_eq, decide_eq_true_eq] at h
        exact ⟨el, i, z, hu, hi, hz, h.1.1, h.1.2, h.2, by simp [elemTy, hu], by simp [Program.cellsOf, hi]⟩
      · cases h
    · cases h
  · cases h

theorem does_iadr (he : EnvOk B w F tok fr box e a) {t : TypeId} {x i : Operand} {k : AV → Prop} (ho : o.op = .indexAddr t x i) (hg : goodElem P t = true)
    (h : evG true e x fun x => evG true e i fun i => match x with
      | .bsl j n => gInt i fun _ i => Need (true = true → 0 ≤ i ∧ i < n) (k (.bptr j (i.toNat * P.cellsOf (elemTy P t))))
      | .list _ xs => gInt i fun _ i => Ix true xs i (P.cellsOf (elemTy P t)) fun c => k (.rptr c)
      | _ => Stop) : Does P B w F tok fr box a o k := by
  obtain ⟨el, ti, z, hu, hi, hz, hzs, hpos, _, hel, hcz⟩ := goodElem_inv hg
  rw [hel, hcz] at h
  obtain ⟨xv, hk1, hx⟩ := evG_sound he h
  obtain ⟨iv, hk2, hiv⟩ := evG_sound he hk1
  have hel' : P.elem t = el := by simp [Program.elem, hu]
  have hu' : P.underlying t = some (.slice (P.elem t)) := by rw [hel', hu]
  split at hk2
  · rename_i j m
    obtain ⟨kd, n, rfl, hk3⟩ := gInt_inv hk2
    obtain ⟨hn, hk⟩ := hk3
    obtain ⟨h0, h1⟩ := hn rfl
    obtain ⟨b, cap, hb, hcap, hv⟩ : ∃ b cap, box[j]? = some (.blk b cap) ∧ m ≤ cap ∧ a.eval x = .slice (some ⟨b, 0, none⟩) m cap := by
      rcases hx.bsl_inv with h | ⟨_, rfl, _⟩
      · exact h
      · omega
    refine ⟨_, .pointer (some ⟨b, n.toNat * ti.size, none⟩), hk, .rep _ _ (.bptr _ _ b cap hb), fun w' _ => ?_⟩
    have h1' : 0 ≤ n ∧ n < (m : Int) := ⟨h0, h1⟩
    simp only [execOp, ho, hv, hiv.val_inv, Sem.run_bind, run_indexAt_slice _ _ _ _ _ _ _ hu', if_pos h1', hel', sizeOf, typeInfo, run_program, Result.andThen_ok, hi, Sem.run_pure, Addr.add_lit, Nat.zero_add]
  · obtain ⟨xs, ad, cap, sz, b, off, vs, hk3, hv, hcap, ha, hsz, hF, hc, hr⟩ := gList_rep (x := .list _ _) (k := fun xs => gInt iv fun _ i => Ix true xs i ti.size fun c => k (.rptr c)) hk2 hx
    obtain ⟨kd, n, rfl, hk4⟩ := gInt_inv hk3
    obtain ⟨ec, hb, hk⟩ := hk4
    obtain ⟨h0, hget, h2⟩ := hb rfl
    have hn : n.toNat < xs.length := getElem?_lt hget
    have hne : xs ≠ [] := by intro h0; subst h0; simp at hn
    have hs : sz = ti.size := by rw [← h2, hsz _ (List.mem_of_getElem? hget)]
    subst hs
    refine ⟨_, .pointer (some ⟨b, off + n.toNat * ti.size, none⟩), hk, .rep _ _ (.rptr _ b (off + n.toNat * ti.size) (fun j => vs n.toNat j) (fun _ => ?_) (fun j c hj => hc _ _ j c hget hj) (fun j c hj => hr _ _ j c hget hj)), fun w' _ => ?_⟩
    · have := idx_lt (j := ti.size - 1) hn (by omega) (hF hne)
      omega
    · have hel' : P.elem t = el := by simp [Program.elem, hu]
      have hu' : P.underlying t = some (.slice (P.elem t)) := by rw [hel', hu]
      have h1' : 0 ≤ n ∧ n < (xs.length : Int) := ⟨h0, by omega⟩
      simp only [execOp, ho, hv, ha hne, hiv.val_inv, Sem.run_bind, run_indexAt_slice _ _ _ _ _ _ _ hu', if_pos h1', hel', sizeOf, typeInfo, run_program, Result.andThen_ok, hi, Sem.run_pure, Addr.add_lit]
  · exact hk2.no

theorem does_index (he : EnvOk B w F tok fr box e a) {t : TypeId} {x i : Operand} {k : AV → Prop} (ho : o.op = .index t x i) (ht : P.underlying t = some .string)
    (h : evG true e x fun x => evG true e i fun i => gInt i fun _ i => gStr x fun s =>
      Need (true = true → 0 ≤ i ∧ i < s.length) (k (.val (.int .u8 (s.getD i.toNat 0).toNat)))) : Does P B w F tok fr box a o k := by
  obtain ⟨xv, hk1, hx⟩ := evG_sound he h
  obtain ⟨iv, hk2, hiv⟩ := evG_sound he hk1
  obtain ⟨kd, n, rfl, hk3⟩ := gInt_inv hk2
  obtain ⟨s, rfl, hk4⟩ := gStr_inv hk3
  obtain ⟨hb, hk⟩ := hk4
  obtain ⟨h0, h1⟩ := hb rfl
  have h1' : 0 ≤ n ∧ n < ((⟨s.toArray⟩ : ByteArray).size : Int) := ⟨h0, h1⟩
  have h3 : n.toNat < s.length := by omega
  refine does_val hk fun w' => ?_
  have e1 : s.getD n.toNat 0 = (⟨s.toArray⟩ : ByteArray)[n.toNat]'h3 := by
    rw [List.getD_eq_getElem?_getD, List.getElem?_eq_getElem h3]; rfl
  simp only [execOp, ho, hx.str_inv, mkS, hiv.val_inv, Sem.run_bind, run_index_string _ t _ kd n ht, dif_pos h1', Result.andThen_ok, Sem.run_pure, e1]

theorem bound_sound (he : EnvOk B w F tok fr box e a) {x : Option Operand} {d : Nat} {k : Int → Prop} (h : bound true e x d k) :
    ∃ n, k n ∧ ((x = none ∧ n = d) ∨ ∃ y kd, x = some y ∧ a.eval y = .int kd n) := by
  unfold bound at h
  split at h
  · exact ⟨_, h, .inl ⟨rfl, rfl⟩⟩
  · obtain ⟨y, hk, hy⟩ := evG_sound he h
    obtain ⟨kd, n, rfl, hk⟩ := gInt_inv hk
    exact ⟨n, hk, .inr ⟨_, kd, rfl, hy.val_inv⟩⟩

theorem does_sliceS (he : EnvOk B w F tok fr box e a) {t : TypeId} {x : Operand} {lo hi : Option Operand} {k : AV → Prop} (ho : o.op = .slice t x lo hi none) (ht : P.underlying t = some .string)
    (h : evG true e x fun x => lenK true x fun n => bound true e lo 0 fun lo => bound true e hi n fun hi => sliceK true true 0 x lo hi k) : Does P B w F tok fr box a o k := by
  obtain ⟨xv, hk1, hx⟩ := evG_sound he h
  obtain ⟨s, rfl, hk2⟩ := gStr_inv hk1
  obtain ⟨l, hk3, hl⟩ := bound_sound he hk2
  obtain ⟨m, hk4, hm⟩ := bound_sound he hk3
  obtain ⟨hb, hk⟩ := (hk4 : Need _ _)
  obtain ⟨h0, h1, h2⟩ := hb rfl
  refine ⟨_, _, hk, .rep _ _ (.str _), fun w' _ => ?_⟩
  have hsz : m ≤ ((⟨s.toArray⟩ : ByteArray).size : Int) := h2
  have em : mkS ((s.take m.toNat).drop l.toNat) = .string ((⟨s.toArray⟩ : ByteArray).extract l.toNat m.toNat) := by
    unfold mkS
    congr 1
    apply ByteArray.ext
    apply Array.ext'
    rw [Lib.extract_data]
    simp [List.drop_take]
  have h3 : 0 ≤ m := by omega
  have h4 : l ≤ (m.toNat : Int) := by omega
  have hv : a.eval x = .string ⟨s.toArray⟩ := hx.str_inv
  have hlen : (s.length : Int) = ((⟨s.toArray⟩ : ByteArray).size : Int) := rfl
  rw [em]
  clear em hk h hk1 hk2 hk3 hb hx
  rw [hlen] at h2
  generalize (⟨s.toArray⟩ : ByteArray) = S at *
  rcases hl with ⟨rfl, rfl⟩ | ⟨y, kd, rfl, hl⟩ <;> rcases hm with ⟨rfl, rfl⟩ | ⟨y', kd', rfl, hm⟩ <;>
    simp_all [execOp, Instr.sliceAt, Instr.slice, run_underlying, Instr.sliceBounds, run_sliceBound]

theorem sliced_rep {xs : List (List AV)} {ad : Option Addr} {cap sz b off l m : Nat} {vs : Nat → Nat → Value}
    (hcap : xs.length ≤ cap) (ha : xs ≠ [] → ad = some ⟨b, off, none⟩) (hsz : ∀ e ∈ xs, e.length = sz) (hF : xs ≠ [] → off + xs.length * sz ≤ F b)
    (hc : ∀ i e j c, xs[i]? = some e → e[j]? = some c → w.cell? ⟨b, off + i * sz + j, none⟩ = some (vs i j) ∧ (vs i j).oneCell' = true)
    (hr : ∀ i e j c, xs[i]? = some e → e[j]? = some c → Rep B w F tok fr [] c (vs i j)) (s : Nat) (hs : xs ≠ [] → s = sz) (h1 : l ≤ m) (h2 : m ≤ xs.length) :
    Rep B w F tok fr box (.list none ((xs.take m).drop l)) (sliced ad l m cap s) := by
  have hlen : ((xs.take m).drop l).length = m - l := by simp; omega
  have hgo : ∀ i e, ((xs.take m).drop l)[i]? = some e → xs[l + i]? = some e := fun i e h => by
    rw [List.getElem?_drop, List.getElem?_take] at h
    split at h
    · exact h
    · cases h
  have hne : (xs.take m).drop l ≠ [] → xs ≠ [] ∧ l < m := fun h => by
    constructor
    · rintro rfl; simp at h
    · rcases Nat.lt_or_ge l m with h' | h'
      · exact h'
      · exact absurd (List.eq_nil_of_length_eq_zero (by rw [hlen]; omega)) h
  have e1 : sliced ad l m cap s = .slice (if cap = l then ad else ad.map (·.add (l * s))) ((xs.take m).drop l).length (cap - l) := by rw [hlen]; rfl
  rw [e1]
  refine .list none _ _ (cap - l) sz b (off + l * sz) (fun i j => vs (l + i) j) (by rw [hlen]; omega) (fun h => ?_) (fun e he => hsz e (List.mem_of_mem_take (List.mem_of_mem_drop he))) (fun h => ?_) (fun i e j c hi hj => ?_) (fun i e j c hi hj => hr _ _ j c (hgo i e hi) hj) (fun k hk => by cases hk)
  · obtain ⟨h3, h4⟩ := hne h
    rw [if_neg (by omega), ha h3, hs h3]
    simp [Addr.add_lit]
  · obtain ⟨h3, h4⟩ := hne h
    have h5 := hF h3
    rw [hlen]
    have h6 : l * sz + (m - l) * sz = m * sz := by rw [← Nat.add_mul]; congr 1; omega
    have h7 : m * sz ≤ xs.length * sz := Nat.mul_le_mul_right _ h2
    omega
  · have := hc _ _ j c (hgo i e hi) hj
    rw [show off + l * sz + i * sz + j = off + (l + i) * sz + j by rw [Nat.add_mul]; omega]
    exact this

theorem does_sliceL (he : EnvOk B w F tok fr box e a) {t el : TypeId} {x : Operand} {lo hi : Option Operand} {k : AV → Prop} (ho : o.op = .slice t x lo hi none) (ht : P.underlying t = some (.slice el)) (hok : (P.info? el).isSome = true)
    (h : evG true e x fun x => lenK false x fun n => bound true e lo 0 fun lo => bound true e hi n fun hi => sliceK false true (P.cellsOf el) x lo hi k) : Does P B w F tok fr box a o k := by
  obtain ⟨ti, hti⟩ := Option.isSome_iff_exists.1 hok
  have hcz : P.cellsOf el = ti.size := by simp [Program.cellsOf, hti]
  rw [hcz] at h
  obtain ⟨xv, hk1, hx⟩ := evG_sound he h
  obtain ⟨xs, ad, cap, sz, b, off, vs, ⟨hk2, hself⟩, hv, hcap, ha, hsz, hF, hc, hr⟩ := gList_rep (gList_self hk1) hx
  obtain ⟨l, hk3, hl⟩ := bound_sound he hk2
  obtain ⟨m, hk4, hm⟩ := bound_sound he hk3
  obtain ⟨ys, hb, hk⟩ := hself _ hk4
  obtain ⟨h0, h1, h2, h3, rfl⟩ := hb rfl
  have hs : xs ≠ [] → ti.size = sz := fun h => by
    cases xs with
    | nil => exact absurd rfl h
    | cons c r => rw [← h3 c (by simp), hsz c (by simp)]
  refine ⟨_, _, hk, .rep _ _ (sliced_rep (l := l.toNat) (m := m.toNat) hcap ha hsz hF hc hr ti.size hs (by omega) (by omega)), fun w' _ => ?_⟩
  have h4 : l ≤ (m.toNat : Int) := by omega
  have h5 : m ≤ (cap : Int) := by omega
  have h6 : 0 ≤ m := by omega
  clear hk h hk1 hk2 hk3 hk4 hself hb hx hr hc hF h3
  rcases hl with ⟨rfl, rfl⟩ | ⟨y, kd, rfl, hl⟩ <;> rcases hm with ⟨rfl, rfl⟩ | ⟨y', kd', rfl, hm⟩ <;>
    simp_all [execOp, Instr.sliceAt, Instr.slice, run_underlying, Instr.sliceBounds, run_sliceBound, sliced, sizeOf, typeInfo]

theorem does_extract (he : EnvOk B w F tok fr box e a) {x : Operand} {i : Nat} {k : AV → Prop} (ho : o.op = .extract x i)
    (h : evG true e x fun x => match x with | .tup vs => (match vs[i]? with | some v => k v | none => Stop) | _ => Stop) : Does P B w F tok fr box a o k := by
  obtain ⟨xv, hk, hx⟩ := evG_sound he h
  split at hk
  · rename_i cs
    split at hk
    · rename_i c hc
      generalize hv : a.eval x = v at hx
      cases hx.tup_inv with
      | tup _ vs hl hr =>
        have hi := getElem?_lt hc
        have hi' : i < vs.size := by omega
        refine ⟨_, vs.getD i undef, hk, .rep _ _ (hr i c hc), fun w' _ => ?_⟩
        have hvs : vs[i]? = some (vs.getD i undef) := by simp [Array.getD, hi']
        simp only [execOp, ho, hv, Instr.extract, hvs, Sem.run_bind, Sem.run_pure, Result.andThen_ok]
    · exact hk.no
  · exact hk.no

theorem does_b2s (he : EnvOk B w F tok fr box e a) {s d el : TypeId} {x : Operand} {k : AV → Prop} (ho : o.op = .convert s d x)
    (hs : P.underlying s = some (.slice el)) (hel : P.underlying el = some (.int .u8)) (hd : P.underlying d = some .string)
    (h : evG true e x fun x => gList x fun xs => Bytes xs fun l => k (.str l)) : Does P B w F tok fr box a o k := by
  obtain ⟨xv, hk1, hx⟩ := evG_sound he h
  obtain ⟨xs, ad, cap, sz, b, off, vs, hk2, hv, hcap, ha, hsz, hF, hc, hr⟩ := gList_rep hk1 hx
  obtain ⟨l, rfl, hk⟩ := hk2
  refine ⟨_, mkS l, hk, .rep _ _ (.str _), fun w' hw => ?_⟩
  cases l with
  | nil =>
    have : ad = none ∨ ∃ a', ad = some a' := by cases ad <;> simp
    rcases this with rfl | ⟨a', rfl⟩
    · simp [execOp, ho, hv, convert, run_underlying hs, run_underlying hd, run_underlying hel, Conv.bytesToString, mkS]; rfl
    · have := run_bytesToString (P := P) w' a' 0 cap [] (by simp [loadCells, loadCellsFrom])
      simp [execOp, ho, hv, convert, run_underlying hs, run_underlying hd, run_underlying hel, this, mkS]; rfl
  | cons c r =>
    have hne : (c :: r).map byteCell ≠ [] := by simp
    have hs1 : sz = 1 := by rw [← hsz (byteCell c) (by simp)]; rfl
    subst hs1
    have hcell : ∀ j u, ((c :: r).map fun b => Value.int .u8 b.toNat)[j]? = some u → w'.cell? ((⟨b, off, none⟩ : Addr).add j) = some u := fun j u hu => by
      rw [List.getElem?_map] at hu
      obtain ⟨y, hy, rfl⟩ := Option.map_eq_some_iff.1 hu
      have hy' : ((c :: r).map byteCell)[j]? = some (byteCell y) := by rw [List.getElem?_map, hy]; rfl
      obtain ⟨h1, _⟩ := hc j _ 0 _ hy' rfl
      have h2 := hr j _ 0 _ hy' rfl
      rw [h2.val_inv] at h1
      rw [Addr.add_lit, hw.cell (by have := World.block_lt_of_cell? w _ h1; simpa using this)]
      simpa using h1
    have h3 := run_loadCells_list (P := P) w' ⟨b, off, none⟩ ((c :: r).map fun b => Value.int .u8 b.toNat) hcell
    have h4 := run_bytesToString (P := P) w' ⟨b, off, none⟩ (c :: r).length cap ((c :: r).map fun b => (b.toNat : Int)) (by simpa [List.map_map, Function.comp_def] using h3)
    have h5 : ∀ (l : List UInt8) (s : ByteArray), (l.map fun b => (b.toNat : Int)).foldl (fun r n => r.push (UInt8.ofNat n.toNat)) s = ⟨(s.data.toList ++ l).toArray⟩ := by
      intro l
      induction l with
      | nil => intro s; simp
      | cons a l ih => intro s; simp only [List.map_cons, List.foldl_cons, ih]; simp [ByteArray.push]
    rw [h5] at h4
    rw [ha hne, List.length_map] at hv
    simp only [execOp, ho, hv, convert, Sem.run_bind, run_underlying hs, run_underlying hd, run_underlying hel, Result.andThen_ok, h4, Sem.run_pure, mkS]
    rfl
end
end Abs
end Go.Proofs.Ytkbblglbbfdnpaa
namespace Go.Proofs.Ytkbblglbbfdnpaa
namespace Abs
open Go.RowKit

section
variable {P : Program} {B : Nat} {w : World} {F : Nat → Nat} {tok : List (Option Nat)} {fr : Fr} {box : List BId} {bx : List ABox} {e : Env} {a : Act} {o : Oper}

theorem args_one {c : Go.Call} (h : c.args.size = 1) : c.args = #[arg c.args.toList 0] := by
  rcases c with ⟨_, ⟨l⟩, _⟩
  match l, h with
  | [x], _ => rfl

theorem args_two {l : Array Operand} (h : l.size = 2) : l = #[arg l.toList 0, arg l.toList 1] := by
  rcases l with ⟨l⟩
  match l, h with
  | [x, y], _ => rfl

theorem types_one {c : Go.Call} (h : c.argTypes.size = 1) : c.argTypes = #[c.argTypes.getD 0 0] := by
  rcases c with ⟨_, _, ⟨l⟩⟩
  match l, h with
  | [x], _ => rfl

theorem aVal_sound (ops : List Oper) (he : EnvOk B w F tok fr box e a) (hB : BoxesOk B w F tok fr box bx)
    {k : AV → Prop} (h : aVal (cOp P ops o) true e bx k) : Does P B w F tok fr box a o k := by
  unfold cOp at h
  cases hop : o.op <;> simp only [hop] at h
  case move x => exact does_mv he (.inl hop) h
  case assign x => exact does_mv he (.inr hop) h
  case pick c x y =>
    split at h
    · exact does_and he hop h
    · split at h
      · exact does_or he hop h
      · exact h.no
  case box => exact h.no
  case alloc =>
    split at h
    · split at h <;> exact h.no
    · exact h.no
  case build =>
    split at h
    · split at h <;> exact h.no
    · exact h.no
  case buildSlice => split at h <;> exact h.no
  case makeSlice => split at h <;> exact h.no
  case load t x =>
    split at h
    · rename_i hok; exact does_load he hB hop hok h
    · exact h.no
  case store => split at h <;> exact h.no
  case binOp op t x y u =>
    split at h
    · rename_i ht; exact does_binb he hop ht h
    · rename_i ht
      split at h
      · split at h
        · exact does_nilq (ne := false) he hop ht h
        · exact does_nilq (ne := true) he hop ht h
        · exact h.no
      · exact h.no
    · rename_i ht
      split at h
      · rename_i ks hks
        split at h
        · exact does_eqs (ne := false) he hop ht hks rfl h
        · exact does_eqs (ne := true) he hop ht hks rfl h
        · exact h.no
      · exact h.no
    · exact does_bin he hop h
  case unOp op t x =>
    split at h
    · exact does_not he hop h
    · exact does_neg he hop h
    · exact h.no
  case makeFunc =>
    split at h
    · split at h
      · split at h <;> exact h.no
      · exact h.no
    · exact h.no
  case convert s d x =>
    split at h
    · rename_i ks kd hs hd
      have inv : ∀ {t k}, isInt P t = some k → P.underlying t = some (.int k) := fun {t k} h => by
        unfold isInt at h; split at h
        · cases h; assumption
        · cases h
      exact does_conv he hop (inv hs) (inv hd) h
    · split at h
      · rename_i el hs hd
        split at h
        · rename_i hel
          have hel' : P.underlying el = some (.int .u8) := by
            unfold isInt at hel; split at hel
            · cases hel; assumption
            · cases hel
          exact does_b2s he hop hs hel' hd h
        · exact h.no
      · exact h.no
  case nilCheck x => exact does_nil he hop h
  case fieldAddr t x i =>
    split at h
    · rename_i f hf
      split at h
      · exact h.no
      · rename_i hz; exact does_fadr he hop hf hz h
    · exact h.no
  case field t x i =>
    split at h
    · rename_i f hf
      split at h
      · rename_i hok; exact does_field he hop hf hok h
      · exact h.no
    · exact h.no
  case indexAddr t x i =>
    split at h
    · rename_i hg; exact does_iadr he hop hg h
    · exact h.no
  case index t x i =>
    split at h
    · rename_i ht; exact does_index he hop ht h
    · exact h.no
  case slice t x lo hi mx =>
    split at h
    · split at h
      · rename_i ht; exact does_sliceS he hop ht h
      · rename_i el ht
        split at h
        · rename_i hok
          have : elemTy P t = el := by simp [elemTy, ht]
          rw [this] at h hok
          simp only [okTy, Bool.and_eq_true] at hok
          exact does_sliceL he hop ht hok.2 h
        · exact h.no
      · exact h.no
    · exact h.no
  case extract x i => exact does_extract he hop h
  case lookup t x y ok =>
    split at h
    · rename_i ht; exact does_lookup he hB hop ht h
    · split at h
      · rename_i q hq; exact does_vlook he hB hop hq h
      · exact h.no
  case makeMap t r =>
    split at h
    · split at h
      · exact h.no
      · split at h <;> exact h.no
    · exact h.no
  case mapUpdate =>
    split at h
    · exact h.no
    · split at h <;> exact h.no
  case range t x => split at h <;> exact h.no
  case next x s => split at h <;> exact h.no
  case call c =>
    split at h
    · rename_i b hc
      split at h
      · split at h
        · rename_i ht
          split at h
          · rename_i hs
            refine does_lenS (t := c.argTypes.getD 0 0) he (x := arg c.args.toList 0) ?_ ht h
            rw [hop, ← args_one hs.1, ← types_one hs.2, ← hc]
          · exact h.no
        · rename_i el ht
          split at h
          · rename_i hs
            refine does_lenL (t := c.argTypes.getD 0 0) he (x := arg c.args.toList 0) ?_ ht h
            rw [hop, ← args_one hs.1, ← types_one hs.2, ← hc]
          · exact h.no
        · rename_i kt et ht
          split at h
          · rename_i hs
            refine does_mlen (t := c.argTypes.getD 0 0) he hB (x := arg c.args.toList 0) ?_ ht h
            rw [hop, ← args_one hs.1, ← types_one hs.2, ← hc]
          · exact h.no
        · exact h.no
      · split at h <;> exact h.no
      · split at h
        · rename_i hs
          refine does_mm (mx := true) he (x := arg c.args.toList 0) (y := arg c.args.toList 1) (tys := c.argTypes) ?_ h
          rw [hop]; congr 1
          rcases c with ⟨cal, args, tys⟩
          simp only at hc hs ⊢
          subst hc
          congr 1
          exact args_two hs
        · exact h.no
      · split at h
        · rename_i hs
          refine does_mm (mx := false) he (x := arg c.args.toList 0) (y := arg c.args.toList 1) (tys := c.argTypes) ?_ h
          rw [hop]; congr 1
          rcases c with ⟨cal, args, tys⟩
          simp only at hc hs ⊢
          subst hc
          congr 1
          exact args_two hs
        · exact h.no
      · exact h.no
    · split at h
      · split at h
        · split at h <;> exact h.no
        · exact h.no
      · exact h.no
      · exact h.no
    · exact h.no
  all_goals exact h.no
end
end Abs
end Go.Proofs.Ytkbblglbbfdnpaa
namespace Go.Proofs.Ytkbblglbbfdnpaa
namespace Abs
variable {mo : Bool} {U : List (AV × Value)}
open Go.RowKit

section ex
variable {gd : Bool} {e : Env} {bx : List ABox}
theorem evG_ex {x : Operand} {k : AV → Prop} (h : evG gd e x k) : ∃ y, k y := unG_ex h
theorem gInt_ex {x : AV} {k : IntKind → Int → Prop} (h : gInt x k) : ∃ kd n, k kd n := by obtain ⟨kd, n, _, h⟩ := gInt_inv h; exact ⟨kd, n, h⟩
theorem gBool_ex {x : AV} {k : Bool → Prop} (h : gBool x k) : ∃ b, k b := by obtain ⟨b, _, h⟩ := gBool_inv h; exact ⟨b, h⟩
theorem gStr_ex {x : AV} {k : Str → Prop} (h : gStr x k) : ∃ b, k b := by obtain ⟨b, _, h⟩ := gStr_inv h; exact ⟨b, h⟩
theorem gList_ex {x : AV} {k : List (List AV) → Prop} (h : gList x k) : ∃ xs, k xs := by
  rcases gList_inv h with ⟨_, xs, _, h⟩ | ⟨_, h⟩
  · exact ⟨xs, h⟩
  · exact ⟨_, h⟩
theorem lenK'_ex {s : Bool} {x : AV} {k : Nat → Prop} (h : lenK' s x k) : ∃ n, k n := by
  cases s with
  | true => obtain ⟨_, _, h⟩ := gStr_inv h; exact ⟨_, h⟩
  | false =>
    simp only [lenK'] at h
    split at h
    · exact ⟨_, h⟩
    · exact ⟨_, h⟩
    · exact ⟨_, h⟩
    · exact h.no
theorem lenK_ex {s : Bool} {x : AV} {k : Nat → Prop} (h : lenK s x k) : ∃ n, k n := by
  cases s
  · obtain ⟨_, h⟩ := gList_ex h; exact ⟨_, h⟩
  · obtain ⟨_, h⟩ := gStr_ex h; exact ⟨_, h⟩
theorem bound_ex {x : Option Operand} {d : Nat} {k : Int → Prop} (h : bound gd e x d k) : ∃ n, k n := by
  unfold bound at h; split at h
  · exact ⟨_, h⟩
  · obtain ⟨_, h⟩ := evG_ex h; obtain ⟨_, _, h⟩ := gInt_ex h; exact ⟨_, h⟩
theorem sliceK_ex {s : Bool} {sz : Nat} {x : AV} {lo hi : Int} {k : AV → Prop} (h : sliceK s gd sz x lo hi k) : ∃ y, k y := by
  cases s
  · obtain ⟨_, h⟩ := gList_ex h; obtain ⟨_, _, h⟩ := h; exact ⟨_, h⟩
  · obtain ⟨_, h⟩ := gStr_ex h; obtain ⟨_, h⟩ := h; exact ⟨_, h⟩
theorem takeAV_ex {ag : Bool} {n : Nat} {cs : List AV} {k : AV → Prop} (h : takeAV ag n cs k) : ∃ y, k y := by
  unfold takeAV at h; split at h
  · obtain ⟨_, h⟩ := h; exact ⟨_, h⟩
  · split at h
    · exact ⟨_, h⟩
    · exact h.no
theorem ptrCells_ex {x : AV} {k : List AV → Prop} (h : ptrCells bx x k) : ∃ y, k y := by
  unfold ptrCells at h; split at h
  · exact ⟨_, h⟩
  · split at h
    · exact ⟨_, h⟩
    · exact h.no
  · exact h.no
theorem fadrK_ex {off : Nat} {x : AV} {k : AV → Prop} (h : fadrK off x k) : ∃ y, k y := by
  unfold fadrK at h; split at h
  · exact ⟨_, h⟩
  · exact ⟨_, h⟩
  · exact h.no
theorem aInt_ex {op : BinOp} {kd : IntKind} {a b : Int} {k : Value → Prop} (h : aInt op kd a b k) : ∃ y, k y := by
  obtain ⟨v, h, _⟩ := int_run (P := default) op 0 kd a b k h; exact ⟨v, h⟩
theorem aStr_ex {op : BinOp} {a b : Str} {k : AV → Prop} (h : aStr op a b k) : ∃ y, k y := by
  obtain ⟨v, _, h, _⟩ := str_run (P := default) op 0 a b k h; exact ⟨v, h⟩
theorem aBin_ex {op : BinOp} {x y : AV} {k : AV → Prop} (h : aBin op x y k) : ∃ y, k y := by
  unfold aBin at h; split at h
  · split at h
    · split at h
      · obtain ⟨_, h⟩ := h; exact ⟨_, h⟩
      · obtain ⟨_, h⟩ := h; exact ⟨_, h⟩
      · obtain ⟨_, h⟩ := h; obtain ⟨_, h⟩ := aInt_ex h; exact ⟨_, h⟩
    · exact h.no
  · split at h
    · exact aStr_ex h
    · exact h.no
  · exact h.no
theorem aBool_ex {op : BinOp} {a b : Bool} {k : Value → Prop} (h : aBool op a b k) : ∃ y, k y := by
  unfold aBool at h; split at h <;> first | exact ⟨_, h⟩ | exact h.no

theorem eqC_ex : ∀ (ks : List Nat) (cs ds : List AV) {k : Bool → Prop}, eqC ks cs ds k → ∃ r, k r
  | [], _, _, _, h => ⟨_, h⟩
  | q :: ks, [], _, _, h => h.no
  | q :: ks, _ :: _, [], _, h => h.no
  | 0 :: ks, x :: cs, y :: ds, _, h => by
    obtain ⟨_, h⟩ := gStr_ex h; obtain ⟨_, h⟩ := gStr_ex h; obtain ⟨_, h⟩ := eqC_ex ks cs ds h; exact ⟨_, h⟩
  | 1 :: ks, x :: cs, y :: ds, _, h => by
    obtain ⟨_, _, h⟩ := gInt_ex h; obtain ⟨_, _, h⟩ := gInt_ex h; obtain ⟨_, h⟩ := h; obtain ⟨_, h⟩ := eqC_ex ks cs ds h; exact ⟨_, h⟩
  | (q + 2) :: ks, x :: cs, y :: ds, _, h => by
    obtain ⟨_, h⟩ := gBool_ex h; obtain ⟨_, h⟩ := gBool_ex h; obtain ⟨_, h⟩ := eqC_ex ks cs ds h; exact ⟨_, h⟩
theorem eqsK_ex {ne : Bool} {ks : List Nat} {x y : AV} {k : AV → Prop} (h : eqsK ne ks x y k) : ∃ z, k z := by
  unfold eqsK at h
  split at h
  · split at h
    · obtain ⟨r, h⟩ := eqC_ex _ _ _ h
      cases ne <;> exact ⟨_, h⟩
    · exact h.no
  · exact h.no
theorem nilK_ex {ne : Bool} {x : AV} {k : AV → Prop} (h : nilK ne x k) : ∃ y, k y := by
  unfold nilK at h; split at h
  · obtain ⟨h⟩ := h; exact ⟨_, h false (by simp)⟩
  · obtain ⟨h⟩ := h; exact ⟨_, h false (by simp)⟩
  · exact ⟨_, h⟩
  · exact h.no
theorem mbox_ex {x : AV} {k : Nat → List (Str × Str) → Prop} (h : mbox bx x k) : ∃ j m, k j m := by
  unfold mbox at h; split at h
  · split at h
    · exact ⟨_, _, h⟩
    · exact h.no
  · exact h.no
theorem mgetK_ex {ok : Bool} {m : List (Str × Str)} {x : Str} {k : AV → Prop} (h : mgetK ok m x k) : ∃ y, k y := by
  unfold mgetK at h; split at h <;> exact ⟨_, h⟩
theorem vbox_ex {kk vk : MK} {x : AV} {k : Nat → List (MA × MA) → Prop} (h : vbox bx kk vk x k) : ∃ j m, k j m := by
  unfold vbox at h; split at h
  · split at h
    · obtain ⟨_, _, h⟩ := h; exact ⟨_, _, h⟩
    · exact h.no
  · exact h.no
theorem gMA_ex {kk : MK} {x : AV} {k : MA → Prop} (h : gMA kk x k) : ∃ y, k y := by
  unfold gMA at h; split at h
  · obtain ⟨_, _, _, h⟩ := gInt_ex h; exact ⟨_, h⟩
  · obtain ⟨_, h⟩ := gBool_ex h; exact ⟨_, h⟩
  · obtain ⟨_, h⟩ := gStr_ex h; exact ⟨_, h⟩
theorem vgetK_ex {ok : Bool} {vk : MK} {o : Option MA} {k : AV → Prop} (h : vgetK ok vk o k) : ∃ y, k y := by
  unfold vgetK at h; split at h <;> (split at h <;> exact ⟨_, h⟩)
theorem mlenK_ex {x : AV} {k : Nat → Prop} (h : mlenK bx x k) : ∃ n, k n := by
  unfold mlenK at h; split at h
  · split at h
    · exact ⟨_, h⟩
    · exact ⟨_, h⟩
    · exact h.no
  · exact h.no
theorem aVal_ex {op : AOp} {k : AV → Prop} (h : aVal op gd e bx k) : ∃ x, k x := by
  cases op <;> simp only [aVal] at h
  case mv => exact evG_ex h
  case and | or =>
    obtain ⟨_, h⟩ := evG_ex h; obtain ⟨_, h⟩ := gBool_ex h; obtain ⟨_, h⟩ := evG_ex h; obtain ⟨_, h⟩ := gBool_ex h; exact ⟨_, h⟩
  case bin => obtain ⟨_, h⟩ := evG_ex h; obtain ⟨_, h⟩ := evG_ex h; exact aBin_ex h
  case nilq => obtain ⟨_, h⟩ := evG_ex h; exact nilK_ex h
  case eqs => obtain ⟨_, h⟩ := evG_ex h; obtain ⟨_, h⟩ := evG_ex h; exact eqsK_ex h
  case binb => obtain ⟨_, h⟩ := evG_ex h; obtain ⟨_, h⟩ := evG_ex h; obtain ⟨_, h⟩ := gBool_ex h; obtain ⟨_, h⟩ := gBool_ex h; obtain ⟨_, h⟩ := aBool_ex h; exact ⟨_, h⟩
  case not => obtain ⟨_, h⟩ := evG_ex h; obtain ⟨_, h⟩ := gBool_ex h; exact ⟨_, h⟩
  case neg => obtain ⟨_, h⟩ := evG_ex h; obtain ⟨_, _, h⟩ := gInt_ex h; exact ⟨_, h⟩
  case conv => obtain ⟨_, h⟩ := evG_ex h; obtain ⟨_, _, h⟩ := gInt_ex h; exact ⟨_, h⟩
  case b2s => obtain ⟨_, h⟩ := evG_ex h; obtain ⟨_, h⟩ := gList_ex h; obtain ⟨_, _, h⟩ := h; exact ⟨_, h⟩
  case load => obtain ⟨_, h⟩ := evG_ex h; obtain ⟨_, h⟩ := ptrCells_ex h; exact takeAV_ex h
  case fadr => obtain ⟨_, h⟩ := evG_ex h; exact fadrK_ex h
  case field =>
    obtain ⟨_, h⟩ := evG_ex h; split at h
    · exact takeAV_ex h
    · exact h.no
  case iadr =>
    obtain ⟨_, h⟩ := evG_ex h; obtain ⟨_, h⟩ := evG_ex h; split at h
    · obtain ⟨_, _, h⟩ := gInt_ex h; obtain ⟨_, h⟩ := h; exact ⟨_, h⟩
    · obtain ⟨_, _, h⟩ := gInt_ex h; obtain ⟨_, _, h⟩ := h; exact ⟨_, h⟩
    · exact h.no
  case index => obtain ⟨_, h⟩ := evG_ex h; obtain ⟨_, h⟩ := evG_ex h; obtain ⟨_, _, h⟩ := gInt_ex h; obtain ⟨_, h⟩ := gStr_ex h; obtain ⟨_, h⟩ := h; exact ⟨_, h⟩
  case slice => obtain ⟨_, h⟩ := evG_ex h; obtain ⟨_, h⟩ := lenK_ex h; obtain ⟨_, h⟩ := bound_ex h; obtain ⟨_, h⟩ := bound_ex h; exact sliceK_ex h
  case extract =>
    obtain ⟨_, h⟩ := evG_ex h; split at h
    · split at h
      · exact ⟨_, h⟩
      · exact h.no
    · exact h.no
  case len => obtain ⟨_, h⟩ := evG_ex h; obtain ⟨_, h⟩ := lenK'_ex h; exact ⟨_, h⟩
  case lookup => obtain ⟨_, h⟩ := evG_ex h; obtain ⟨_, h⟩ := evG_ex h; obtain ⟨_, _, h⟩ := mbox_ex h; obtain ⟨_, h⟩ := gStr_ex h; obtain ⟨_, h⟩ := h; exact mgetK_ex h
  case mlen => obtain ⟨_, h⟩ := evG_ex h; obtain ⟨_, h⟩ := mlenK_ex h; exact ⟨_, h⟩
  case vlook => obtain ⟨_, h⟩ := evG_ex h; obtain ⟨_, h⟩ := evG_ex h; obtain ⟨_, _, h⟩ := vbox_ex h; obtain ⟨_, h⟩ := gMA_ex h; exact vgetK_ex h
  case mm mx _ _ => obtain ⟨_, h⟩ := evG_ex h; obtain ⟨_, h⟩ := evG_ex h; obtain ⟨_, _, h⟩ := gInt_ex h; obtain ⟨_, _, h⟩ := gInt_ex h; cases mx <;> exact ⟨_, h⟩
  all_goals exact h.no

theorem evs_ex : ∀ {l : List Operand} {k : List AV → Prop}, evs gd e l k → ∃ vs, k vs
  | [], _, h => ⟨[], h⟩
  | _ :: _, _, h => by
    obtain ⟨_, h⟩ := evG_ex h
    obtain ⟨vs, h⟩ := evs_ex h
    exact ⟨_, h⟩

theorem cellsK_ex {x : AV} {k : List AV → Prop} (h : cellsK x k) : ∃ cs, k cs := by
  unfold cellsK at h; split at h <;> first | exact ⟨_, h⟩ | (obtain ⟨_, h⟩ := h; exact ⟨_, h⟩) | exact h.no
theorem cellsKs_ex : ∀ {l : List AV} {k : List (List AV) → Prop}, cellsKs l k → ∃ cs, k cs
  | [], _, h => ⟨[], h⟩
  | _ :: _, _, h => by
    obtain ⟨_, h⟩ := cellsK_ex h
    obtain ⟨_, h⟩ := cellsKs_ex h
    exact ⟨_, h⟩
theorem aValB_ex {op : AOp} {k : AV → Prop} (h : aValB op gd e bx k) : ∃ x, k x := by
  unfold aValB at h; split at h
  · obtain ⟨_, h⟩ := evs_ex h
    obtain ⟨_, h⟩ := cellsKs_ex h
    obtain ⟨_, h⟩ := h
    exact ⟨_, h⟩
  · obtain ⟨_, h⟩ := evs_ex h
    obtain ⟨_, h⟩ := evs_ex h
    obtain ⟨_, h⟩ := h
    exact ⟨_, h⟩
  · exact aVal_ex h
theorem aQuiet_ex {C : Con} {op : AOp} {k : AV → Prop} (h : aQuiet C op gd e bx k) : ∃ x, k x := by
  unfold aQuiet at h; split at h
  · obtain ⟨_, h⟩ := evs_ex h
    obtain ⟨_, _, _, _, _, h⟩ := h
    exact ⟨_, h⟩
  · exact aValB_ex h
theorem aGuard_ex {C : Con} {op : AOp} {k : AV → Prop} (h : aGuard C op gd e bx k) : ∃ x, k x := by
  unfold aGuard at h; split at h
  · obtain ⟨_, h⟩ := evs_ex h
    rcases h with ⟨_, _, _, _, _, h⟩ | ⟨_, _, _, _, _, h⟩
    · exact ⟨_, h⟩
    · exact ⟨_, h⟩
  · exact aValB_ex h
end ex

structure G where
  F : Nat → Nat
  tok : List (Option Nat)
  box : List BId

/-- Below block number B the world is as it was; where that is asked (mo), no draw is taken back. -/
structure Bel (mo : Bool) (B : Nat) (w w' : World) : Prop extends Below B w w' where
  drawn : mo = true → w.drawn ≤ w'.drawn
theorem Bel.refl (B : Nat) (w : World) : Bel mo B w w := ⟨Below.refl B w, fun _ => Nat.le_refl _⟩
theorem Bel.trans {B : Nat} {a b c : World} (h : Bel mo B a b) (k : Bel mo B b c) : Bel mo B a c := ⟨h.toBelow.trans k.toBelow, fun m => Nat.le_trans (h.drawn m) (k.drawn m)⟩
theorem Bel.drew {B : Nat} {a w : World} (h : Bel mo B a w) : Bel mo B a w.drew := ⟨h.toBelow.drew, fun m => Nat.le_trans (h.drawn m) (Nat.le_succ _)⟩
theorem Bel.alloc {B : Nat} {a w : World} (h : Bel mo B a w) (hB : B ≤ w.heap.size) (o : Obj) : Bel mo B a (w.alloc o) := ⟨h.toBelow.alloc hB o, fun m => h.drawn m⟩
theorem Bel.less {B B' : Nat} {a w : World} (h : Bel mo B a w) (hB : B' ≤ B) : Bel mo B' a w := ⟨h.toBelow.mono hB, h.drawn⟩

/-- What was there is as it was, but for the blocks that are lent. -/
structure Keep (mo : Bool) (box0 : List BId) (w w' : World) : Prop where
  drawn : mo = true → w.drawn ≤ w'.drawn
  os : w'.os = w.os
  tape : w'.tape = w.tape
  output : w'.output = w.output
  size : w.heap.size ≤ w'.heap.size
  block : ∀ k, k < w.heap.size → (∀ (j c : Nat), box0[j]? ≠ some (.blk k c)) → w'.heap[k]? = w.heap[k]?

theorem Keep.refl (box0 : List BId) (w : World) : Keep mo box0 w w := ⟨fun _ => Nat.le_refl _, rfl, rfl, rfl, Nat.le_refl _, fun _ _ _ => rfl⟩
theorem Keep.trans {box0 : List BId} {w0 w w' : World} (h : Keep mo box0 w0 w) (k : Bel mo w.heap.size w w') : Keep mo box0 w0 w' :=
  ⟨fun m => Nat.le_trans (h.drawn m) (k.drawn m), k.os.trans h.os, k.tape.trans h.tape, k.output.trans h.output, Nat.le_trans h.size k.size, fun i hi hn => (k.block i (Nat.lt_of_lt_of_le hi h.size)).trans (h.block i hi hn)⟩
theorem Keep.below {w0 w : World} (h : Keep mo [] w0 w) : Bel mo w0.heap.size w0 w := ⟨⟨h.os, h.tape, h.output, h.size, fun k hk => h.block k hk (by simp)⟩, h.drawn⟩

def live (bx : List ABox) (j : Nat) : Prop := bx[j]? ≠ some .dead

/-- values that wait for the end of the call -/
def HeldOk (U : List (AV × Value)) (B : Nat) (w : World) (F : Nat → Nat) (tok : List (Option Nat)) (fr : Fr) (box : List BId) : Prop := ∀ p ∈ U, RepT B w F tok fr box p.1 p.2
theorem HeldOk.later {U : List (AV × Value)} {B : Nat} {w w' : World} {F F' : Nat → Nat} {tok tok' : List (Option Nat)} {fr fr' : Fr} {box box' : List BId} (h : HeldOk U B w F tok fr box) (L : Later w F tok fr w' F' tok' fr')
    (hb : ∀ (j : Nat) d, box[j]? = some d → box'[j]? = some d) : HeldOk U B w' F' tok' fr' box' := fun p hp => (h p hp).later L hb
/-- What a state says of a frame and a world, in a call that began in world w0 with boxes box0 lent (n slots; F0: what of the old memory is read). -/
structure Sim (mo : Bool) (n : Nat) (w0 : World) (F0 : Nat → Nat) (box0 : List BId) (U : List (AV × Value)) (g : G) (s : St) (a : Act) (w : World) : Prop where
  defers : a.defers = []
  size : a.tmps.size = n
  env : EnvOk w0.heap.size w g.F g.tok s.fr g.box s.env a
  below : Keep mo box0 w0 w
  old : ∀ b, b < w0.heap.size → g.F b = F0 b
  out : ∀ b, w.heap.size ≤ b → g.F b = 0
  boxlen : g.box.length = s.bx.length
  boxpre : ∀ (j : Nat) d, box0[j]? = some d → g.box[j]? = some d
  boxin : ∀ (j b c : Nat), g.box[j]? = some (.blk b c) → (w0.heap.size ≤ b ∨ ∃ i : Nat, box0[i]? = some (.blk b c)) ∧ b < w.heap.size
  boxF : ∀ (j b c : Nat), g.box[j]? = some (.blk b c) → live s.bx j → g.F b = 0
  boxrep : BoxesOk w0.heap.size w g.F g.tok s.fr g.box s.bx
  boxinj : ∀ (i j b c c' : Nat), g.box[i]? = some (.blk b c) → g.box[j]? = some (.blk b c') → live s.bx i → live s.bx j → i = j
  cond : CondB w0 box0
  held : HeldOk U w0.heap.size w g.F g.tok s.fr g.box
  toklen : g.tok.length = s.fr.length
  tokin : ∀ (k b : Nat), g.tok[k]? = some (some b) → w0.heap.size ≤ b ∧ b < w.heap.size
  tokbox : ∀ (k b j c : Nat), g.tok[k]? = some (some b) → g.box[j]? = some (.blk b c) → ¬ live s.bx j
  tokinj : ∀ (k l b : Nat), g.tok[k]? = some (some b) → g.tok[l]? = some (some b) → k = l

theorem Sim.condNow {n : Nat} {w0 : World} {F0 : Nat → Nat} {box0 : List BId} {g : G} {s : St} {a : Act} {w : World} (hs : Sim mo n w0 F0 box0 U g s a w) : CondB w g.box := by
  intro p hp
  obtain ⟨⟨t, m, h1⟩, h2⟩ := hs.cond p hp
  have hlt : p.1 < w0.heap.size := (Array.getElem?_eq_some_iff.1 h1).1
  refine ⟨⟨t, m, by rw [hs.below.block p.1 hlt h2]; exact h1⟩, fun j c hj => ?_⟩
  rcases (hs.boxin j _ c hj).1 with h | ⟨i, hi⟩
  · omega
  · exact h2 i c hi

theorem BoxOk.later {B : Nat} {w w' : World} {F F' : Nat → Nat} {tok tok' : List (Option Nat)} {fr fr' : Fr} {box box' : List BId} (L : Later w F tok fr w' F' tok' fr') (hx : ∀ (j : Nat) d, box[j]? = some d → box'[j]? = some d)
    {d : BId} {x : ABox} (hb : ∀ b c, d = .blk b c → x ≠ .dead → w'.heap[b]? = w.heap[b]?) (h : BoxOk B w F tok fr box d x) : BoxOk B w' F' tok' fr' box' d x := by
  cases d with
  | blk b c =>
    cases x with
    | cells k cs =>
      obtain ⟨c, t, h1, h2, h3, h4⟩ := h
      exact ⟨c, t, by rw [hb b _ rfl (by simp)]; exact h1, h2, fun i x hx' => ⟨(h3 i x hx').1.later L hx, (h3 i x hx').2⟩, h4⟩
    | iter s p => exact (hb b _ rfl (by simp)).trans h
    | map m => obtain ⟨es, cl, h1, h2⟩ := h; exact ⟨es, cl, (hb b _ rfl (by simp)).trans h1, h2⟩
    | vmap kk vk m => obtain ⟨es, cl, h1, h2⟩ := h; exact ⟨es, cl, (hb b _ rfl (by simp)).trans h1, h2⟩
    | dead => exact trivial
  | nil =>
    cases x with
    | cells k cs => exact h
    | iter s p => exact h
    | map m => exact h
    | vmap kk vk m => exact h
    | dead => exact trivial

theorem BoxesOk.later {B : Nat} {w w' : World} {F F' : Nat → Nat} {tok tok' : List (Option Nat)} {fr fr' : Fr} {box : List BId} {bx : List ABox} (L : Later w F tok fr w' F' tok' fr')
    (hb : ∀ (j b c : Nat), box[j]? = some (.blk b c) → live bx j → w'.heap[b]? = w.heap[b]?) (h : BoxesOk B w F tok fr box bx) : BoxesOk B w' F' tok' fr' box bx :=
  fun j d x hd hx => (h j d x hd hx).later L (fun _ _ h => h) (fun b c he hne => hb j b c (he ▸ hd) (fun h => hne (by rw [hx] at h; exact Option.some.inj h)))

theorem EnvOk.later {B : Nat} {w w' : World} {F F' : Nat → Nat} {tok tok' : List (Option Nat)} {fr fr' : Fr} {box box' : List BId} (L : Later w F tok fr w' F' tok' fr')
    (hb : ∀ (j : Nat) d, box[j]? = some d → box'[j]? = some d) {e : Env} {a : Act} (h : EnvOk B w F tok fr box e a) : EnvOk B w' F' tok' fr' box' e a :=
  fun i => (h i).later L hb

theorem look_put (e : Env) (d : Option Nat) (x : AV) (i : Nat) : look (put e d x) i = if some i = d then x else look e i := by
  cases d with
  | none => simp [put]
  | some d => simp only [put, look, Option.some.injEq]

theorem EnvOk.put {B : Nat} {w : World} {F : Nat → Nat} {tok : List (Option Nat)} {fr : Fr} {box : List BId} {e : Env} {a : Act} (h : EnvOk B w F tok fr box e a)
    {d : Option Nat} (hd : ∀ i, d = some i → i < a.tmps.size) {x : AV} {v : Value} (hx : RepT B w F tok fr box x v) : EnvOk B w F tok fr box (put e d x) (a.put d v) := by
  intro i
  rw [look_put]
  cases d with
  | none => simpa [Act.put] using h i
  | some d =>
    have hd' := hd d rfl
    by_cases hi : i = d
    · subst hi; simpa [Act.put, Array.getD, hd'] using hx
    · have hi' : ¬ d = i := fun h => hi h.symm
      have := h i
      simp only [Option.some.injEq, hi, if_false, Act.put]
      rw [show (a.tmps.setIfInBounds d v).getD i undef = a.tmps.getD i undef by simp [Array.getD_eq_getD_getElem?, hi']]
      exact this

theorem Sim.put {n : Nat} {w0 : World} {F0 : Nat → Nat} {box0 : List BId} {g : G} {e : Env} {bx : List ABox} {fr : Fr} {a : Act} {w : World} (h : Sim mo n w0 F0 box0 U g ⟨e, bx, fr⟩ a w)
    {d : Option Nat} (hd : ∀ i, d = some i → i < n) {x : AV} {v : Value} (hx : RepT w0.heap.size w g.F g.tok fr g.box x v) : Sim mo n w0 F0 box0 U g ⟨put e d x, bx, fr⟩ (a.put d v) w :=
  { h with
    defers := by cases d <;> exact h.defers
    size := by cases d <;> simp [Act.put, h.size]
    env := EnvOk.put h.env (by rw [h.size]; exact hd) hx }

/-- Nothing that the state speaks of has turned. -/
theorem later_below {n : Nat} {w0 : World} {F0 : Nat → Nat} {box0 : List BId} {g : G} {s : St} {a : Act} {w w' : World} (h : Sim mo n w0 F0 box0 U g s a w) (hw : Bel mo w.heap.size w w') :
    Later w g.F g.tok s.fr w' g.F g.tok s.fr := by
  refine ⟨fun b i hi => ?_, fun _ => Nat.le_refl _, fun k t sz n hk => ⟨n, hk, Nat.le_refl _, fun _ => ⟨rfl, fun b hb => ⟨?_, rfl⟩⟩⟩⟩
  · have : b < w.heap.size := by
      rcases Nat.lt_or_ge b w.heap.size with h1 | h1
      · exact h1
      · rw [h.out b h1] at hi; omega
    exact hw.cell this
  · exact hw.block b (h.tokin k b hb).2

theorem Sim.world {n : Nat} {w0 : World} {F0 : Nat → Nat} {box0 : List BId} {g : G} {s : St} {a : Act} {w w' : World} (h : Sim mo n w0 F0 box0 U g s a w) (hw : Bel mo w.heap.size w w') : Sim mo n w0 F0 box0 U g s a w' := by
  have L := later_below h hw
  exact { h with
    env := h.env.later L (fun _ _ h => h)
    held := h.held.later L (fun _ _ h => h)
    below := h.below.trans hw
    out := fun b hb => h.out b (Nat.le_trans hw.size hb)
    boxin := fun j b c hb => ⟨(h.boxin j b c hb).1, Nat.lt_of_lt_of_le (h.boxin j b c hb).2 hw.size⟩
    boxrep := h.boxrep.later L (fun j b c hb _ => hw.block b (h.boxin j b c hb).2)
    tokin := fun k b hb => ⟨(h.tokin k b hb).1, Nat.lt_of_lt_of_le (h.tokin k b hb).2 hw.size⟩ }
end Abs
end Go.Proofs.Ytkbblglbbfdnpaa
namespace Go.Proofs.Ytkbblglbbfdnpaa
namespace Abs
open Go.RowKit

section lists
theorem length_setAt {α : Type} : ∀ (xs : List α) (cs : List α) (o : Nat), (setAt cs o xs).length = cs.length
  | [], _, _ => rfl
  | x :: xs, cs, o => by rw [setAt, length_setAt xs]; simp

theorem setAt_mid {α : Type} : ∀ (xs pre post : List α), xs.length ≤ post.length → setAt (pre ++ post) pre.length xs = pre ++ xs ++ post.drop xs.length
  | [], pre, post, _ => by simp [setAt]
  | x :: xs, pre, [], h => by simp at h
  | x :: xs, pre, p :: post, h => by
    have e1 : (pre ++ p :: post).set pre.length x = (pre ++ [x]) ++ post := by simp
    have := setAt_mid xs (pre ++ [x]) post (by simpa using h)
    rw [List.length_append] at this
    rw [setAt, e1]
    simpa using this

/-- two lists whose members belong together -/
def Both {α β : Type} (R : α → β → Prop) (xs : List α) (ys : List β) : Prop := xs.length = ys.length ∧ ∀ (i : Nat) x y, xs[i]? = some x → ys[i]? = some y → R x y

theorem Both.set {α β : Type} {R : α → β → Prop} {xs : List α} {ys : List β} (h : Both R xs ys) (o : Nat) {x : α} {y : β} (hxy : R x y) : Both R (xs.set o x) (ys.set o y) := by
  refine ⟨by simp [h.1], fun i a b ha hb => ?_⟩
  rw [List.getElem?_set] at ha hb
  by_cases hi : o = i
  · subst hi
    simp only [if_true] at ha hb
    split at ha <;> split at hb
    · cases ha; cases hb; exact hxy
    · cases hb
    · cases ha
    · cases ha
  · simp only [hi, if_false] at ha hb
    exact h.2 i a b ha hb

theorem Both.cons {α β : Type} {R : α → β → Prop} {x : α} {y : β} {xs : List α} {ys : List β} : Both R (x :: xs) (y :: ys) ↔ R x y ∧ Both R xs ys := by
  constructor
  · rintro ⟨h1, h2⟩
    exact ⟨h2 0 x y rfl rfl, by simpa using h1, fun i a b ha hb => h2 (i + 1) a b (by simpa using ha) (by simpa using hb)⟩
  · rintro ⟨h1, h2, h3⟩
    refine ⟨by simp [h2], fun i a b ha hb => ?_⟩
    cases i with
    | zero => simp at ha hb; subst ha; subst hb; exact h1
    | succ i => exact h3 i a b (by simpa using ha) (by simpa using hb)

theorem Both.setAt {α β : Type} {R : α → β → Prop} : ∀ {us : List α} {vs : List β} {xs : List α} {ys : List β} (o : Nat), Both R xs ys → Both R us vs → Both R (Abs.setAt xs o us) (Abs.setAt ys o vs)
  | [], [], _, _, _, h, _ => h
  | [], _ :: _, _, _, _, _, h => by simp [Both] at h
  | _ :: _, [], _, _, _, _, h => by simp [Both] at h
  | u :: us, v :: vs, xs, ys, o, h, k => by
    obtain ⟨k1, k2⟩ := Both.cons.1 k
    exact Both.setAt (o + 1) (h.set o k1) k2
end lists

section runs
variable {P : Program}
theorem foldl_setAt (off : Nat) : ∀ (l : List Value) (s : Nat) (cells : Array Value), ((l.zipIdx s).foldl (fun cs (cj : Value × Nat) => cs.setIfInBounds (off + cj.2) cj.1) cells).toList = setAt cells.toList (off + s) l
  | [], _, _ => rfl
  | x :: l, s, cells => by
    rw [List.zipIdx_cons, List.foldl_cons, foldl_setAt off l (s + 1)]
    simp [setAt, Array.toList_setIfInBounds, Nat.add_assoc]

theorem fill_run (place : Nat → Option (Nat × Nat)) : ∀ (parts : List (Nat × Value)) (cells : Array Value) (pl : List (Nat × Nat)), parts.map (fun p => place p.1) = pl.map some →
    parts.map (fun p => p.2.cells.size) = pl.map (·.2) → (∀ q ∈ pl, q.1 + q.2 ≤ cells.size) →
    ∃ cells', Instr.fill place cells parts = some cells' ∧ cells'.toList = fillAt cells.toList (pl.map (·.1)) (parts.map fun p => p.2.cells.toList)
  | [], cells, pl, h, _, _ => by
    cases pl with
    | nil => exact ⟨cells, rfl, rfl⟩
    | cons => simp at h
  | (i, v) :: parts, cells, [], h, _, _ => by simp at h
  | (i, v) :: parts, cells, (o, s) :: pl, h, hs, hle => by
    simp only [List.map_cons, List.cons.injEq] at h hs
    have hb := hle (o, s) (by simp)
    simp only at hb hs h
    obtain ⟨cells', h1, h2⟩ := fill_run place parts ((v.cells.zipIdx).foldl (fun cs (cj : Value × Nat) => cs.setIfInBounds (o + cj.2) cj.1) cells) pl h.2 hs.2 (fun q hq => by
      have e : ((v.cells.zipIdx).foldl (fun cs (cj : Value × Nat) => cs.setIfInBounds (o + cj.2) cj.1) cells).size = cells.size := by
        rw [← Array.length_toList, ← Array.foldl_toList, Array.toList_zipIdx, foldl_setAt, length_setAt, Array.length_toList]
      rw [e]; exact hle q (by simp [hq]))
    refine ⟨cells', ?_, ?_⟩
    · unfold Instr.fill
      rw [h.1]
      simp only
      rw [if_neg (by simp; omega)]
      exact h1
    · rw [h2, ← Array.foldl_toList, Array.toList_zipIdx, foldl_setAt]
      simp [fillAt]
end runs

section
variable {P : Program} {B : Nat} {w : World} {F : Nat → Nat} {tok : List (Option Nat)} {fr : Fr} {box : List BId} {bx : List ABox} {e : Env} {a : Act} {o : Oper}

/-- a cell's value and what is known of it -/
def CellR (B : Nat) (w : World) (F : Nat → Nat) (tok : List (Option Nat)) (fr : Fr) (box : List BId) (x : AV) (v : Value) : Prop := Rep B w F tok fr box x v ∧ v.oneCell' = true

theorem both_map_val {vs : List Value} (h : ∀ v ∈ vs, v.oneCell' = true) : Both (CellR B w F tok fr box) (vs.map constAV) vs :=
  ⟨by simp, fun i x v hx hv => by
    rw [List.getElem?_map, hv] at hx
    cases hx
    exact ⟨constAV_rep v, h v (List.mem_of_getElem? hv)⟩⟩

theorem cellsK_sound {x : AV} {v : Value} {k : List AV → Prop} (h : cellsK x k) (hx : RepT B w F tok fr box x v) : ∃ cs, k cs ∧ Both (CellR B w F tok fr box) cs v.cells.toList := by
  unfold cellsK at h
  split at h
  · cases hx.agg_inv with
    | agg cs vs hl h1 hr =>
      refine ⟨_, h, (by show _ = vs.toList.length; simpa using hl), fun i x v hx hv => ?_⟩
      have hv' : vs[i]? = some v := by simpa [Value.cells] using hv
      have hi := (Array.getElem?_eq_some_iff.1 hv').1
      have e : vs.getD i undef = v := by simp [Array.getD, hi, (Array.getElem?_eq_some_iff.1 hv').2]
      exact e ▸ ⟨hr i x hx, h1 i hi⟩
  · refine ⟨_, h, ?_⟩
    have hr := hx.list_inv
    cases hr with
    | list o xs a cap => exact Both.cons.2 ⟨⟨hx.list_inv, rfl⟩, rfl, by simp⟩
  · rw [hx.str_inv]
    exact ⟨_, h, Both.cons.2 ⟨⟨.str _, rfl⟩, rfl, by simp⟩⟩
  · obtain ⟨b, cap, hb, rfl⟩ := hx.bptr_inv
    exact ⟨_, h, Both.cons.2 ⟨⟨.bptr _ _ b cap hb, rfl⟩, rfl, by simp⟩⟩
  · have hr : Rep B w F tok fr box (.bsl _ _) v := hx.plain (by simp)
    rcases hr.bsl_inv with ⟨b, cap, hb, hn, rfl⟩ | ⟨hb, rfl, rfl⟩
    · exact ⟨_, h, Both.cons.2 ⟨⟨hr, rfl⟩, rfl, by simp⟩⟩
    · exact ⟨_, h, Both.cons.2 ⟨⟨hr, rfl⟩, rfl, by simp⟩⟩
  · have hr := hx.rptr_inv
    cases hr with
    | rptr cs b off vs => exact ⟨_, h, Both.cons.2 ⟨⟨hx.rptr_inv, rfl⟩, rfl, by simp⟩⟩
  · have hr := hx.clo_inv
    cases hr with
    | clo f xs ys vf vc => exact ⟨_, h, Both.cons.2 ⟨⟨hx.clo_inv, rfl⟩, rfl, by simp⟩⟩
  · have hr : Rep B w F tok fr box (.bmap _) v := hx.plain (by simp)
    cases hr with
    | bmap _ b cap hb => exact ⟨_, h, Both.cons.2 ⟨⟨.bmap _ b cap hb, rfl⟩, rfl, by simp⟩⟩
  · have hr := hx.tag_inv
    cases hr with
    | tag _ _ hr h1 =>
      have e : v.cells.toList = [v] := by cases v <;> first | rfl | cases h1
      rw [e]
      exact ⟨_, h, Both.cons.2 ⟨⟨.tag _ _ hr h1, h1⟩, rfl, by simp⟩⟩
  · obtain ⟨ha, h⟩ := h
    cases hx.val_inv
    refine ⟨_, h, both_map_val fun v hv => ?_⟩
    exact (Array.all_eq_true_iff_forall_mem.1 ha) v (by simpa using hv)
  · exact h.no
  · rename_i u hn1 hn2
    refine ⟨_, h, ?_⟩
    have e : u.cells.toList = [u] := by cases u <;> first | rfl | exact absurd rfl (hn1 _)
    rw [hx.val_inv, e]
    refine Both.cons.2 ⟨⟨.val _, ?_⟩, rfl, by simp⟩
    cases u <;> first | rfl | exact absurd rfl (hn1 _) | exact absurd rfl (hn2 _)
  · exact h.no

theorem cellsKs_sound : ∀ {xs : List AV} {vs : List Value} {k : List (List AV) → Prop}, cellsKs xs k → Both (RepT B w F tok fr box) xs vs →
    ∃ cs, k cs ∧ Both (Both (CellR B w F tok fr box)) cs (vs.map fun v => v.cells.toList)
  | [], [], _, h, _ => ⟨[], h, rfl, by simp⟩
  | [], _ :: _, _, _, hb => by simp [Both] at hb
  | _ :: _, [], _, _, hb => by simp [Both] at hb
  | x :: xs, v :: vs, k, h, hb => by
    obtain ⟨b1, b2⟩ := Both.cons.1 hb
    obtain ⟨c, h, hc⟩ := cellsK_sound h b1
    obtain ⟨cs, h, hcs⟩ := cellsKs_sound h b2
    exact ⟨_, h, Both.cons.2 ⟨hc, hcs⟩⟩

theorem evs_sound (he : EnvOk B w F tok fr box e a) : ∀ {l : List Operand} {k : List AV → Prop}, evs true e l k → ∃ vs, k vs ∧ Both (RepT B w F tok fr box) vs (l.map a.eval)
  | [], _, h => ⟨[], h, rfl, by simp⟩
  | x :: l, k, h => by
    obtain ⟨y, h, hy⟩ := evG_sound he h
    obtain ⟨vs, h, hvs⟩ := evs_sound he h
    exact ⟨_, h, Both.cons.2 ⟨hy, hvs⟩⟩
end
end Abs
end Go.Proofs.Ytkbblglbbfdnpaa
namespace Go.Proofs.Ytkbblglbbfdnpaa
namespace Abs
variable {mo : Bool} {U : List (AV × Value)}
open Go.RowKit

/-- a function with Go text -/
def okFn (P : Program) (f : Nat) : Bool := match P.funcs[f]? with | some fn => !(fn.name == "runtime.NumGoroutine") && fn.body.isSome | none => false

/-- Called with these, function f hands back r, whose own slices have the lengths frs, and turns nothing that was there. -/
def ARet (mo : Bool) (P : Program) (f : Nat) (args : List AV) (r : AV) (frs : Fr) : Prop :=
  okFn P f = true ∧ ∀ (w : World) (F : Nat → Nat) (vs : Array Value), CondB w [] → (∀ b, w.heap.size ≤ b → F b = 0) → Both (Rep w.heap.size w F [] [] []) args vs.toList →
    Calls P f vs w fun e w' => ∃ (v : Value) (F' : Nat → Nat) (tok : List (Option Nat)) (box : List BId), e = .returned v ∧ Bel mo w.heap.size w w' ∧ (∀ b, b < w.heap.size → F' b = F b) ∧
      (∀ b, w'.heap.size ≤ b → F' b = 0) ∧ tok.length = frs.length ∧ (∀ (k b : Nat), tok[k]? = some (some b) → w.heap.size ≤ b ∧ b < w'.heap.size) ∧
      (∀ (k l b : Nat), tok[k]? = some (some b) → tok[l]? = some (some b) → k = l) ∧ Rep w.heap.size w' F' tok frs box r v

/-- Called with these, function f hands back the tree x, all of it new, and turns nothing that was there. -/
def ORet (mo : Bool) (P : Program) (f : Nat) (args : List AV) (x : Tr) : Prop :=
  okFn P f = true ∧ ∀ (w : World) (F : Nat → Nat) (vs : Array Value), CondB w [] → (∀ b, w.heap.size ≤ b → F b = 0) → Both (Rep w.heap.size w F [] [] []) args vs.toList →
    Calls P f vs w fun e w' => ∃ (v : Value) (ds : List Nat), e = .returned v ∧ Bel mo w.heap.size w w' ∧ OwnL w' [x] [v] ds ∧ ds.Nodup ∧ ∀ d ∈ ds, w.heap.size ≤ d ∧ d < w'.heap.size

/-- Called with these, boxes b0 being lent to it, function f hands back r and leaves b1 in the boxes. -/
def TRet (mo : Bool) (P : Program) (f : Nat) (b0 : List ABox) (args : List AV) (r : AV) (b1 : List ABox) : Prop :=
  okFn P f = true ∧ ∀ (w : World) (F : Nat → Nat) (vs : Array Value) (box0 : List BId), CondB w box0 → (∀ b, w.heap.size ≤ b → F b = 0) → box0.length = b0.length →
    (∀ (j b c : Nat), box0[j]? = some (.blk b c) → b < w.heap.size ∧ F b = 0) → (∀ (i j b c c' : Nat), box0[i]? = some (.blk b c) → box0[j]? = some (.blk b c') → i = j) →
    BoxesOk w.heap.size w F [] [] box0 b0 → Both (Rep w.heap.size w F [] [] box0) args vs.toList →
    Calls P f vs w fun e w' => ∃ (v : Value) (F' : Nat → Nat), e = .returned v ∧ Keep mo box0 w w' ∧ (∀ b, b < w.heap.size → F' b = F b) ∧ (∀ b, w'.heap.size ≤ b → F' b = 0) ∧
      BoxesOk w.heap.size w' F' [] [] box0 b1 ∧ Rep w.heap.size w' F' [] [] box0 r v

/-- boxes that are not lent are as if they were nil -/
def mask : List ABox → List BId → List BId
  | .dead :: b, _ :: box => .nil :: mask b box
  | _ :: b, d :: box => d :: mask b box
  | _, _ => []
/-- Called with these, boxes b0 being lent to it (those that are not dead), function f hands back something and leaves something in the boxes, perhaps in more of them, of which Φ is known. -/
def GRet (mo : Bool) (P : Program) (f : Nat) (b0 : List ABox) (args : List AV) (Φ : AV → List ABox → Prop) : Prop :=
  okFn P f = true ∧ ∀ (w : World) (F : Nat → Nat) (vs : Array Value) (box0 : List BId), CondB w box0 → (∀ b, w.heap.size ≤ b → F b = 0) → box0.length = b0.length →
    (∀ (j b c : Nat), box0[j]? = some (.blk b c) → b < w.heap.size ∧ (live b0 j → F b = 0)) →
    (∀ (i j b c c' : Nat), box0[i]? = some (.blk b c) → box0[j]? = some (.blk b c') → live b0 i → live b0 j → i = j) →
    BoxesOk w.heap.size w F [] [] box0 b0 → Both (Rep w.heap.size w F [] [] box0) args vs.toList →
    Calls P f vs w fun e w' => ∃ (v : Value) (F' : Nat → Nat) (box1 : List BId) (r : AV) (b1 : List ABox), Φ r b1 ∧ e = .returned v ∧ Keep mo (mask b0 box0) w w' ∧ (∀ b, b < w.heap.size → F' b = F b) ∧ (∀ b, w'.heap.size ≤ b → F' b = 0) ∧
      (∀ (j : Nat) d, box0[j]? = some d → box1[j]? = some d) ∧ box1.length = b1.length ∧
      (∀ (j b c : Nat), box0.length ≤ j → box1[j]? = some (.blk b c) → (w.heap.size ≤ b ∨ ∃ i : Nat, live b0 i ∧ box0[i]? = some (.blk b c)) ∧ b < w'.heap.size) ∧
      (∀ (j b c : Nat), box1[j]? = some (.blk b c) → live b1 j → (box0.length ≤ j ∨ live b0 j) → F' b = 0) ∧
      (∀ (i j b c c' : Nat), box1[i]? = some (.blk b c) → box1[j]? = some (.blk b c') → live b1 i → live b1 j → (box0.length ≤ i ∨ live b0 i) → (box0.length ≤ j ∨ live b0 j) → i = j) ∧
      (∀ (j : Nat) d x, box1[j]? = some d → b1[j]? = some x → (box0.length ≤ j ∨ live b0 j) → BoxOk w.heap.size w' F' [] [] box1 d x) ∧ Rep w.heap.size w' F' [] [] box1 r v

/-- .. and slices of its own among what it hands back. -/
def LRet (mo : Bool) (P : Program) (f : Nat) (b0 : List ABox) (args : List AV) (Φ : AV → List ABox → Fr → Prop) : Prop :=
  okFn P f = true ∧ ∀ (w : World) (F : Nat → Nat) (vs : Array Value) (box0 : List BId), CondB w box0 → (∀ b, w.heap.size ≤ b → F b = 0) → box0.length = b0.length →
    (∀ (j b c : Nat), box0[j]? = some (.blk b c) → b < w.heap.size ∧ (live b0 j → F b = 0)) →
    (∀ (i j b c c' : Nat), box0[i]? = some (.blk b c) → box0[j]? = some (.blk b c') → live b0 i → live b0 j → i = j) →
    BoxesOk w.heap.size w F [] [] box0 b0 → Both (Rep w.heap.size w F [] [] box0) args vs.toList →
    Calls P f vs w fun e w' => ∃ (v : Value) (F' : Nat → Nat) (box1 : List BId) (tok : List (Option Nat)) (frs : Fr) (r : AV) (b1 : List ABox), Φ r b1 frs ∧ e = .returned v ∧ Keep mo (mask b0 box0) w w' ∧ (∀ b, b < w.heap.size → F' b = F b) ∧ (∀ b, w'.heap.size ≤ b → F' b = 0) ∧
      (∀ (j : Nat) d, box0[j]? = some d → box1[j]? = some d) ∧ box1.length = b1.length ∧
      (∀ (j b c : Nat), box0.length ≤ j → box1[j]? = some (.blk b c) → (w.heap.size ≤ b ∨ ∃ i : Nat, live b0 i ∧ box0[i]? = some (.blk b c)) ∧ b < w'.heap.size) ∧
      (∀ (j b c : Nat), box1[j]? = some (.blk b c) → live b1 j → (box0.length ≤ j ∨ live b0 j) → F' b = 0) ∧
      (∀ (i j b c c' : Nat), box1[i]? = some (.blk b c) → box1[j]? = some (.blk b c') → live b1 i → live b1 j → (box0.length ≤ i ∨ live b0 i) → (box0.length ≤ j ∨ live b0 j) → i = j) ∧
      (∀ (j : Nat) d x, box1[j]? = some d → b1[j]? = some x → (box0.length ≤ j ∨ live b0 j) → BoxOk w.heap.size w' F' [] [] box1 d x) ∧
      tok.length = frs.length ∧ (∀ (k b : Nat), tok[k]? = some (some b) → w.heap.size ≤ b ∧ b < w'.heap.size) ∧ (∀ (k l b : Nat), tok[k]? = some (some b) → tok[l]? = some (some b) → k = l) ∧
      (∀ (k b j c : Nat), tok[k]? = some (some b) → box1[j]? = some (.blk b c) → ¬ live b1 j) ∧ Rep w.heap.size w' F' tok frs box1 r v

/-- Called in a state of the caller's (boxes b0, slices fr0), function f hands back r and leaves the caller in a state of which Φ is known. -/
def IRet (mo : Bool) (P : Program) (f : Nat) (b0 : List ABox) (fr0 : Fr) (args : List AV) (Φ : AV → List ABox → Fr → Prop) : Prop :=
  okFn P f = true ∧ ∀ (w0 : World) (F0 : Nat → Nat) (box0 : List BId) (U : List (AV × Value)) (g : G) (w : World) (vs : Array Value), Sim mo 0 w0 F0 box0 U g ⟨[], b0, fr0⟩ { tmps := #[], defers := [] } w → (∀ p ∈ U, inB b0.length p.1) →
    Both (Rep w0.heap.size w g.F g.tok fr0 g.box) args vs.toList →
    Calls P f vs w fun e w' => ∃ (v : Value) (g' : G) (r : AV) (b1 : List ABox) (f1 : Fr), Φ r b1 f1 ∧ e = .returned v ∧ Sim mo 0 w0 F0 box0 U g' ⟨[], b1, f1⟩ { tmps := #[], defers := [] } w' ∧
      Rep w0.heap.size w' g'.F g'.tok f1 g'.box r v

def ACon (mo : Bool) (P : Program) : Con := ⟨ARet mo P, ORet mo P, TRet mo P, GRet mo P, LRet mo P, IRet mo P⟩

section
variable {n : Nat} {w0 : World} {F0 : Nat → Nat} {box0 : List BId} {g : G} {e : Env} {bx : List ABox} {f : Fr} {a : Act} {w : World}

theorem later_alloc (hs : Sim mo n w0 F0 box0 U g ⟨e, bx, f⟩ a w) (o : Obj) : Later w g.F g.tok f (w.alloc o) g.F g.tok f :=
  later_below hs ((Bel.refl _ _).alloc (Nat.le_refl _) o)

theorem getElem?_append_one {α : Type} {l : List α} {x y : α} {i : Nat} (h : (l ++ [x])[i]? = some y) : l[i]? = some y ∨ (i = l.length ∧ y = x) := by
  rw [List.getElem?_append] at h
  split at h
  · exact .inl h
  · rename_i hi
    rw [List.getElem?_singleton] at h
    split at h
    · cases h; exact .inr ⟨by omega, rfl⟩
    · cases h

theorem live_append {bx cs : List ABox} {j : Nat} (h : j < bx.length) : live (bx ++ cs) j ↔ live bx j := by
  unfold live; rw [List.getElem?_append_left h]

theorem Sim.newBox (hs : Sim mo n w0 F0 box0 U g ⟨e, bx, f⟩ a w) (o : Obj) (cap : Nat) (x : ABox) (hx : BoxOk w0.heap.size (w.alloc o) g.F g.tok f (g.box ++ [.blk w.heap.size cap]) (.blk w.heap.size cap) x) :
    Sim mo n w0 F0 box0 U { g with box := g.box ++ [.blk w.heap.size cap] } ⟨e, bx ++ [x], f⟩ a (w.alloc o) := by
  have hb : Bel mo w.heap.size w (w.alloc o) := (Bel.refl _ _).alloc (Nat.le_refl _) o
  have L := later_alloc hs o
  have hsz : (w.alloc o).heap.size = w.heap.size + 1 := by simp
  have hbl := hs.boxlen
  simp only at hbl
  have hlt : ∀ {j : Nat} {d : BId}, g.box[j]? = some d → j < bx.length := fun h => by have := getElem?_lt h; omega
  have hext : ∀ (j : Nat) d, g.box[j]? = some d → (g.box ++ [BId.blk w.heap.size cap])[j]? = some d := fun j d h => by rw [List.getElem?_append_left (getElem?_lt h)]; exact h
  exact {
    defers := hs.defers, size := hs.size
    env := hs.env.later L hext
    held := hs.held.later L hext
    below := hs.below.trans hb
    old := hs.old
    out := fun b h => hs.out b (by omega)
    boxlen := by simp [hbl]
    boxpre := fun j d h => hext j d (hs.boxpre j d h)
    boxin := fun j b c h => by
      rcases getElem?_append_one h with h | ⟨_, h⟩
      · have := hs.boxin j b c h; exact ⟨this.1, by omega⟩
      · cases h; exact ⟨.inl hs.below.size, by omega⟩
    boxF := fun j b c h hl => by
      rcases getElem?_append_one h with h | ⟨_, h⟩
      · exact hs.boxF j b c h ((live_append (hlt h)).1 hl)
      · cases h; exact hs.out _ (Nat.le_refl _)
    boxrep := fun j d y h hy => by
      rcases getElem?_append_one h with h | ⟨rfl, rfl⟩
      · have hj := getElem?_lt h
        have hy' : bx[j]? = some y := by
          rcases getElem?_append_one hy with hy | ⟨h1, _⟩
          · exact hy
          · omega
        exact (hs.boxrep j d y h hy').later L hext (fun b c he _ => hb.block b (hs.boxin j b c (he ▸ h)).2)
      · rcases getElem?_append_one hy with hy | ⟨_, rfl⟩
        · have := getElem?_lt hy; omega
        · exact hx
    boxinj := fun i j b c c' hi hj li lj => by
      rcases getElem?_append_one hi with h1 | ⟨h1, h2⟩ <;> rcases getElem?_append_one hj with h3 | ⟨h3, h4⟩
      · exact hs.boxinj i j b c c' h1 h3 ((live_append (hlt h1)).1 li) ((live_append (hlt h3)).1 lj)
      · cases h4; have := (hs.boxin i _ c h1).2; omega
      · cases h2; have := (hs.boxin j _ c' h3).2; omega
      · omega
    cond := hs.cond
    toklen := hs.toklen
    tokin := fun k b h => by have := hs.tokin k b h; exact ⟨this.1, by omega⟩
    tokbox := fun k b j c h hj => by
      rcases getElem?_append_one hj with h1 | ⟨_, h1⟩
      · intro hl; exact hs.tokbox k b j c h h1 ((live_append (hlt h1)).1 hl)
      · cases h1; have := (hs.tokin k _ h).2; omega
    tokinj := hs.tokinj }

/-- F with m at block b -/
def setF (F : Nat → Nat) (b m : Nat) : Nat → Nat := fun c => if c = b then m else F c

theorem later_tok (hs : Sim mo n w0 F0 box0 U g ⟨e, bx, f⟩ a w) (o : Obj) (m : Nat) (y : Option Nat) (z : Nat × Nat × Nat) :
    Later w g.F g.tok f (w.alloc o) (setF g.F w.heap.size m) (g.tok ++ [y]) (f ++ [z]) := by
  have L := later_alloc hs o
  have h0 := hs.out w.heap.size (Nat.le_refl _)
  refine ⟨L.cell, fun b => ?_, fun k t s n hk => ?_⟩
  · unfold setF; split
    · rename_i h; rw [h, h0]; exact Nat.zero_le _
    · exact Nat.le_refl _
  · have hlt := getElem?_lt hk
    refine ⟨n, by rw [List.getElem?_append_left hlt]; exact hk, Nat.le_refl _, fun _ => ⟨by rw [List.getElem?_append_left (by have := hs.toklen; simp only at this; omega)], fun b hb => ?_⟩⟩
    have h1 := (hs.tokin k b hb).2
    refine ⟨Below.heap_alloc _ _ _ h1, ?_⟩
    unfold setF; rw [if_neg (by omega)]

/-- a new slice of the call's own -/
theorem Sim.newTok (hs : Sim mo n w0 F0 box0 U g ⟨e, bx, f⟩ a w) (o : Obj) (m : Nat) (z : Nat × Nat × Nat) :
    Sim mo n w0 F0 box0 U { F := setF g.F w.heap.size m, tok := g.tok ++ [some w.heap.size], box := g.box } ⟨e, bx, f ++ [z]⟩ a (w.alloc o) := by
  have hb : Bel mo w.heap.size w (w.alloc o) := (Bel.refl _ _).alloc (Nat.le_refl _) o
  have L := later_tok hs o m (some w.heap.size) z
  have hsz : (w.alloc o).heap.size = w.heap.size + 1 := by simp
  exact {
    defers := hs.defers, size := hs.size
    env := hs.env.later L (fun _ _ h => h)
    held := hs.held.later L (fun _ _ h => h)
    below := hs.below.trans hb
    old := fun b h => by have := hs.below.size; simp only [setF]; rw [if_neg (by omega)]; exact hs.old b h
    out := fun b h => by simp only [setF]; rw [if_neg (by omega)]; exact hs.out b (by omega)
    boxlen := hs.boxlen
    boxpre := hs.boxpre
    boxin := fun j b c h => by have := hs.boxin j b c h; exact ⟨this.1, by omega⟩
    boxF := fun j b c h hl => by
      have := (hs.boxin j b c h).2
      simp only [setF]; rw [if_neg (by omega)]; exact hs.boxF j b c h hl
    boxrep := hs.boxrep.later L (fun j b c h _ => hb.block b (hs.boxin j b c h).2)
    boxinj := hs.boxinj
    cond := hs.cond
    toklen := by have := hs.toklen; simp only at this; simp [this]
    tokin := fun k b h => by
      rcases getElem?_append_one h with h | ⟨_, h⟩
      · have := hs.tokin k b h; exact ⟨this.1, by omega⟩
      · cases h; exact ⟨hs.below.size, by omega⟩
    tokbox := fun k b j c h hj => by
      rcases getElem?_append_one h with h | ⟨_, h⟩
      · exact hs.tokbox k b j c h hj
      · cases h; have := (hs.boxin j _ c hj).2; omega
    tokinj := fun i j b hi hj => by
      rcases getElem?_append_one hi with h1 | ⟨h1, h2⟩ <;> rcases getElem?_append_one hj with h3 | ⟨h3, h4⟩
      · exact hs.tokinj i j b h1 h3
      · cases h4; have := (hs.tokin i _ h1).2; omega
      · cases h2; have := (hs.tokin j _ h3).2; omega
      · omega }

/-- a token that stands for nil -/
theorem Sim.nilTok (hs : Sim mo n w0 F0 box0 U g ⟨e, bx, f⟩ a w) (z : Nat × Nat × Nat) :
    Sim mo n w0 F0 box0 U { F := g.F, tok := g.tok ++ [none], box := g.box } ⟨e, bx, f ++ [z]⟩ a w := by
  have L : Later w g.F g.tok f w g.F (g.tok ++ [none]) (f ++ [z]) := by
    refine ⟨fun _ _ _ => rfl, fun _ => Nat.le_refl _, fun k t s n hk => ?_⟩
    have hlt := getElem?_lt hk
    exact ⟨n, by rw [List.getElem?_append_left hlt]; exact hk, Nat.le_refl _, fun _ => ⟨by rw [List.getElem?_append_left (by have := hs.toklen; simp only at this; omega)], fun b hb => ⟨rfl, rfl⟩⟩⟩
  exact { hs with
    env := hs.env.later L (fun _ _ h => h)
    held := hs.held.later L (fun _ _ h => h)
    boxrep := hs.boxrep.later L (fun _ _ _ _ _ => rfl)
    cond := hs.cond
    toklen := by have := hs.toklen; simp only at this; simp [this]
    tokin := fun k b h => by
      rcases getElem?_append_one h with h | ⟨_, h⟩
      · exact hs.tokin k b h
      · cases h
    tokbox := fun k b j c h hj => by
      rcases getElem?_append_one h with h | ⟨_, h⟩
      · exact hs.tokbox k b j c h hj
      · cases h
    tokinj := fun i j b hi hj => by
      rcases getElem?_append_one hi with h1 | ⟨h1, h2⟩ <;> rcases getElem?_append_one hj with h3 | ⟨h3, h4⟩
      · exact hs.tokinj i j b h1 h3
      · cases h4
      · cases h2
      · omega }
end
end Abs
end Go.Proofs.Ytkbblglbbfdnpaa
namespace Go.Proofs.Ytkbblglbbfdnpaa
namespace Abs
variable {mo : Bool} {U : List (AV × Value)}
open Go.RowKit

section
variable {n : Nat} {w0 : World} {F0 : Nat → Nat} {box0 : List BId} {g : G} {e : Env} {bx : List ABox} {f : Fr} {a : Act} {w : World}

/-- as w, but for block b -/
structure But (b : Nat) (w w' : World) : Prop where
  drawn : w.drawn ≤ w'.drawn
  os : w'.os = w.os
  tape : w'.tape = w.tape
  output : w'.output = w.output
  size : w'.heap.size = w.heap.size
  block : ∀ k, k ≠ b → w'.heap[k]? = w.heap[k]?

theorem But.cell {b : Nat} {w w' : World} (h : But b w w') {p : Addr} (hp : p.block ≠ b) : w'.cell? p = w.cell? p := World.cell?_of_block (w := w) (h.block p.block hp)
theorem But.below {b B : Nat} {w w' : World} (h : But b w w') (hb : B ≤ b) : Bel mo B w w' := ⟨⟨h.os, h.tape, h.output, by rw [h.size]; exact Nat.le_refl _, fun k hk => h.block k (by omega)⟩, fun _ => h.drawn⟩

theorem But.keep {b : Nat} {w0 w w' : World} {box0 : List BId} (hk : Keep mo box0 w0 w) (h : But b w w') (hb : w0.heap.size ≤ b ∨ ∃ i c : Nat, box0[i]? = some (.blk b c)) : Keep mo box0 w0 w' :=
  ⟨fun m => Nat.le_trans (hk.drawn m) h.drawn, h.os.trans hk.os, h.tape.trans hk.tape, h.output.trans hk.output, by rw [h.size]; exact hk.size, fun k hlt hn => by
    rw [h.block k (fun e => ?_)]
    · exact hk.block k hlt hn
    · subst e
      rcases hb with hb | ⟨i, c, hi⟩
      · omega
      · exact hn i c hi⟩

theorem live_set {bx : List ABox} {i j : Nat} {x : ABox} (hx : x ≠ .dead) (hi : live bx i) : live (bx.set i x) j ↔ live bx j := by
  unfold live
  rw [List.getElem?_set]
  by_cases h : i = j
  · subst h
    simp only [if_true]
    split
    · exact ⟨fun _ => hi, fun _ => fun e => hx (Option.some.inj e)⟩
    · rename_i h2
      rw [List.getElem?_eq_none (by omega)]
  · simp [h]

theorem Sim.turnBox (hs : Sim mo n w0 F0 box0 U g ⟨e, bx, f⟩ a w) {j b cap : Nat} (hj : g.box[j]? = some (.blk b cap)) (hl : live bx j) {w' : World} (hw : But b w w') {x : ABox} (hxd : x ≠ .dead)
    (hx : (∀ y v, Rep w0.heap.size w g.F g.tok f g.box y v → Rep w0.heap.size w' g.F g.tok f g.box y v) → BoxOk w0.heap.size w' g.F g.tok f g.box (.blk b cap) x) : Sim mo n w0 F0 box0 U g ⟨e, bx.set j x, f⟩ a w' := by
  have hb := hs.boxin j b cap hj
  have hF := hs.boxF j b cap hj hl
  have L : Later w g.F g.tok f w' g.F g.tok f := by
    refine ⟨fun c i hi => hw.cell (fun h => ?_), fun _ => Nat.le_refl _, fun k t sz m hk => ⟨m, hk, Nat.le_refl _, fun _ => ⟨rfl, fun c hc => ⟨hw.block c (fun h => ?_), rfl⟩⟩⟩⟩
    · simp only at h; rw [h, hF] at hi; omega
    · subst h; exact hs.tokbox k c j cap hc hj hl
  exact { hs with
    env := hs.env.later L (fun _ _ h => h)
    held := hs.held.later L (fun _ _ h => h)
    below := hw.keep hs.below (hb.1.imp id fun ⟨i, h⟩ => ⟨i, cap, h⟩)
    out := fun c hc => hs.out c (by rw [← hw.size]; exact hc)
    boxlen := by simpa using hs.boxlen
    boxin := fun i c cp hc => by rw [hw.size]; exact hs.boxin i c cp hc
    boxF := fun i c cp hc hi => hs.boxF i c cp hc ((live_set hxd hl).1 hi)
    boxrep := fun i d y hc hy => by
      simp only [List.getElem?_set] at hy
      by_cases hij : j = i
      · subst hij
        rw [hj] at hc; cases hc
        simp only [if_true] at hy
        split at hy
        · cases hy; exact hx (fun _ _ h => h.later L (fun _ _ h => h))
        · cases hy
      · simp only [hij, if_false] at hy
        exact (hs.boxrep i d y hc hy).later L (fun _ _ h => h) (fun b' c' he hne => hw.block b' (fun h => hij (hs.boxinj j i b cap c' hj (by rw [hc, he, h]) hl (fun hd => hne (by rw [show (⟨e, bx, f⟩ : St).bx = bx from rfl, hy] at hd; exact Option.some.inj hd)))))
    boxinj := fun i k c cp cp' hi hk li lk => hs.boxinj i k c cp cp' hi hk ((live_set hxd hl).1 li) ((live_set hxd hl).1 lk)
    tokin := fun k c hc => by rw [hw.size]; exact hs.tokin k c hc
    tokbox := fun k c i cp hc hi hli => hs.tokbox k c i cp hc hi ((live_set hxd hl).1 hli) }

theorem Sim.appendTok (hs : Sim mo n w0 F0 box0 U g ⟨e, bx, f⟩ a w) {k t sz m m' b : Nat} (hk : f[k]? = some (t, sz, m)) (hm : m < m') {w' : World}
    (hdr : w.drawn ≤ w'.drawn) (hw : w'.os = w.os ∧ w'.tape = w.tape ∧ w'.output = w.output ∧ w.heap.size ≤ w'.heap.size ∧ ∀ c, c < w.heap.size → c ≠ b → w'.heap[c]? = w.heap[c]?)
    (hb : (g.tok[k]? = some (some b) ∧ g.F b = m * sz ∧ ∀ i, i < m * sz → w'.cell? ⟨b, i, none⟩ = w.cell? ⟨b, i, none⟩) ∨ (b = w.heap.size ∧ w'.heap.size = w.heap.size + 1)) (hbw : b < w'.heap.size) :
    Later w g.F g.tok f w' (setF g.F b (m' * sz)) (g.tok.set k (some b)) (f.set k (t, sz, m')) ∧
    Sim mo n w0 F0 box0 U { F := setF g.F b (m' * sz), tok := g.tok.set k (some b), box := g.box } ⟨e, bx, f.set k (t, sz, m')⟩ a w' := by
  have hklt := getElem?_lt hk
  have htl := hs.toklen
  simp only at htl
  have hbB : w0.heap.size ≤ b := by
    rcases hb with ⟨h, _⟩ | ⟨h, _⟩
    · exact (hs.tokin k b h).1
    · rw [h]; exact hs.below.size
  have hnbox : ∀ (j c : Nat), g.box[j]? = some (.blk b c) → ¬ live bx j := fun j c hj => by
    rcases hb with ⟨h, _⟩ | ⟨h, _⟩
    · exact hs.tokbox k b j c h hj
    · have := (hs.boxin j b c hj).2; omega
  have hother : ∀ l c, l ≠ k → g.tok[l]? = some (some c) → c ≠ b ∧ c < w.heap.size := fun l c hl hc => by
    refine ⟨fun h => ?_, (hs.tokin l c hc).2⟩
    subst h
    rcases hb with ⟨h, _⟩ | ⟨h, _⟩
    · exact hl (hs.tokinj l k c hc h)
    · have := (hs.tokin l c hc).2; omega
  have hF : ∀ c, c ≠ b → setF g.F b (m' * sz) c = g.F c := fun c hc => by simp [setF, hc]
  have L : Later w g.F g.tok f w' (setF g.F b (m' * sz)) (g.tok.set k (some b)) (f.set k (t, sz, m')) := by
    refine ⟨fun c i hi => ?_, fun c => ?_, fun l t' s' m'' hl => ?_⟩
    · have hcw : c < w.heap.size := by
        rcases Nat.lt_or_ge c w.heap.size with h1 | h1
        · exact h1
        · rw [hs.out c h1] at hi; omega
      by_cases hcb : c = b
      · subst hcb
        rcases hb with ⟨h, hf, hc⟩ | ⟨h, _⟩
        · exact hc i (by omega)
        · omega
      · exact World.cell?_of_block (w := w) (hw.2.2.2.2 c hcw hcb)
    · by_cases hcb : c = b
      · subst hcb
        simp only [setF, if_true]
        rcases hb with ⟨h, hf, hc⟩ | ⟨h, _⟩
        · rw [hf]; exact Nat.mul_le_mul_right _ (Nat.le_of_lt hm)
        · rw [hs.out c (by omega)]; exact Nat.zero_le _
      · rw [hF c hcb]; exact Nat.le_refl _
    · by_cases hlk : l = k
      · subst hlk
        rw [hk] at hl; cases hl
        exact ⟨m', by simp [hklt], Nat.le_of_lt hm, fun h => by omega⟩
      · have hkl : ¬ k = l := fun h => hlk h.symm
        refine ⟨m'', by rw [List.getElem?_set_ne hkl]; exact hl, Nat.le_refl _, fun _ => ⟨List.getElem?_set_ne hkl, fun c hc => ?_⟩⟩
        obtain ⟨h1, h2⟩ := hother l c hlk hc
        exact ⟨hw.2.2.2.2 c h2 h1, hF c h1⟩
  refine ⟨L, ?_⟩
  exact {
    defers := hs.defers, size := hs.size
    env := hs.env.later L (fun _ _ h => h)
    held := hs.held.later L (fun _ _ h => h)
    below := ⟨fun m => Nat.le_trans (hs.below.drawn m) hdr, hw.1.trans hs.below.os, hw.2.1.trans hs.below.tape, hw.2.2.1.trans hs.below.output, Nat.le_trans hs.below.size hw.2.2.2.1, fun c hc hn => (hw.2.2.2.2 c (Nat.lt_of_lt_of_le hc hs.below.size) (by omega)).trans (hs.below.block c hc hn)⟩
    old := fun c hc => by simp only; rw [hF c (by omega)]; exact hs.old c hc
    out := fun c hc => by simp only; rw [hF c (by omega)]; exact hs.out c (Nat.le_trans hw.2.2.2.1 hc)
    boxlen := hs.boxlen
    boxpre := hs.boxpre
    boxin := fun j c cp hc => ⟨(hs.boxin j c cp hc).1, Nat.lt_of_lt_of_le (hs.boxin j c cp hc).2 hw.2.2.2.1⟩
    boxF := fun j c cp hc hl => by
      simp only; rw [hF c (fun h => hnbox j cp (h ▸ hc) hl)]; exact hs.boxF j c cp hc hl
    boxrep := hs.boxrep.later L (fun j c cp hc hl => hw.2.2.2.2 c (hs.boxin j c cp hc).2 (fun h => hnbox j cp (h ▸ hc) hl))
    boxinj := hs.boxinj
    cond := hs.cond
    toklen := by simp [htl]
    tokin := fun l c hc => by
      simp only [List.getElem?_set] at hc
      by_cases hlk : k = l
      · simp only [hlk, if_true] at hc
        split at hc
        · cases hc; exact ⟨hbB, hbw⟩
        · cases hc
      · simp only [hlk, if_false] at hc
        have := hs.tokin l c hc
        exact ⟨this.1, Nat.lt_of_lt_of_le this.2 hw.2.2.2.1⟩
    tokbox := fun l c j cp hc hj => by
      simp only [List.getElem?_set] at hc
      by_cases hlk : k = l
      · simp only [hlk, if_true] at hc
        split at hc
        · cases hc; exact hnbox j cp hj
        · cases hc
      · simp only [hlk, if_false] at hc
        exact hs.tokbox l c j cp hc hj
    tokinj := fun i j c hi hj => by
      simp only [List.getElem?_set] at hi hj
      by_cases h1 : k = i <;> by_cases h2 : k = j
      · omega
      · simp only [h1, if_true] at hi
        simp only [h2, if_false] at hj
        split at hi
        · cases hi; exact absurd rfl (hother j _ (fun h => h2 h.symm) hj).1
        · cases hi
      · simp only [h2, if_true] at hj
        simp only [h1, if_false] at hi
        split at hj
        · cases hj; exact absurd rfl (hother i _ (fun h => h1 h.symm) hi).1
        · cases hj
      · simp only [h1, if_false] at hi
        simp only [h2, if_false] at hj
        exact hs.tokinj i j c hi hj }
end

section
variable {P : Program}
/-- what append does to a slice of the call's own, at least one element being appended -/
theorem append_run (w : World) {t ty el : TypeId} {i : TypeInfo} {z : Value} (ht : P.underlying t = some (.slice el)) (hi : P.info? el = some i) (hz : i.zero = some z) (hzs : z.cells.size = i.size)
    {B n cap : Nat} {ad : Option Addr} {vals : List Value} (hown : w.ownsRow B el i.size (.slice ad n cap) n vals)
    {ay : Addr} {m c : Nat} {news : List Value} (hl : news.length = m * i.size) (hnews : ∀ j u, news[j]? = some u → w.cell? (ay.add j) = some u) (h1 : ∀ u ∈ news, u.oneCell' = true)
    (hm : 0 < m) (h40 : n + m ≤ 1099511627776) (hbytes : (n + m) * i.bytes ≤ 140737488355328) :
    (∃ g cur, ad = some ⟨g, 0, none⟩ ∧ w.heap[g]? = some (.cells cur el (0, 0)) ∧ vals = cur.toList.take (n * i.size) ∧ n + m ≤ cap ∧ cap ≤ maxLen ∧ cur.size = cap * i.size ∧
      (Builtin.append_ #[t, t] ty #[.slice ad n cap, .slice (some ay) m c]).run P w = .ok (.slice ad (n + m) cap) (w.setRow g (vals ++ news ++ cur.toList.drop (n * i.size + news.length)).toArray)) ∨
    (∃ cap' rest, (Builtin.append_ #[t, t] ty #[.slice ad n cap, .slice (some ay) m c]).run P w = .ok (.slice (some ⟨w.heap.size, 0, none⟩) (n + m) cap') (w.drew.alloc (.cells (vals ++ news ++ rest).toArray el)) ∧
      n + m ≤ cap' ∧ cap' ≤ maxLen ∧ (vals ++ news ++ rest).length = cap' * i.size) := by
  have h63 : n + m ≤ maxLen := by unfold maxLen; omega
  have hvl := hown.1
  rcases hown.2 with ⟨he, hn⟩ | ⟨g, cap', cur, he, hBg, hg, hnc, hcm, hcs, htake⟩
  · simp only [Value.slice.injEq] at he
    obtain ⟨rfl, rfl, rfl⟩ := he
    have hv : vals = [] := List.eq_nil_of_length_eq_zero (by simpa using hvl)
    subst hv
    right
    have hr := run_append_nil (P := P) w t ty el i z ht hi hz ay m c news hl hnews hm (by omega) (by rw [Nat.zero_add] at hbytes; omega)
    have hge := grownCap_ge w m 0 el
    refine ⟨grownCap w m 0 el, (Builtin.zeroCells z.cells (grownCap w m 0 el - m)).toList, ?_, by omega, grownCap_le_maxLen w m 0 el (by omega), ?_⟩
    · rw [hr, Nat.zero_add]
      congr 3
      apply Array.ext'
      simp
    · simp only [List.nil_append, List.length_append, hl, Array.length_toList, size_zeroCells, hzs, ← Nat.add_mul]
      congr 1; omega
  · simp only [Value.slice.injEq] at he
    obtain ⟨rfl, _, rfl⟩ := he
    by_cases hroom : n + m ≤ cap
    · left
      have hfit : n * i.size + news.length ≤ cur.size := by rw [hl, hcs, ← Nat.add_mul]; exact Nat.mul_le_mul_right _ hroom
      have hr := run_append_room (P := P) w t ty el i ht hi g n cap cur hg ay m c news hl hnews h1 hroom hfit
      refine ⟨g, cur, rfl, hg, htake.symm, hroom, hcm, hcs, ?_⟩
      rw [hr, htake]
    · right
      have holds : ∀ j u, vals[j]? = some u → w.cell? ((⟨g, 0, none⟩ : Addr).add j) = some u := by
        intro j u hu
        have hadd : (⟨g, 0, none⟩ : Addr).add j = ⟨g, j, none⟩ := by rw [Addr.add_lit]; simp
        rw [hadd, cell_of_row w g j cur el (0, 0) hg]
        rw [← htake, List.getElem?_take] at hu
        split at hu
        · simpa using hu
        · cases hu
      have hr := run_append_grow (P := P) w t ty el i z ht hi hz ⟨g, 0, none⟩ n cap vals hvl holds ay m c news hl hnews (by omega) (by omega) (growslice_fits (by omega) hbytes)
      have hge := grownCap_ge w (n + m) cap el
      refine ⟨grownCap w (n + m) cap el, (Builtin.zeroCells z.cells (grownCap w (n + m) cap el - (n + m))).toList, ?_, hge, grownCap_le_maxLen w (n + m) cap el h63, ?_⟩
      · rw [hr]
        congr 3
        apply Array.ext'
        simp
      · simp only [List.length_append, hvl, hl, Array.length_toList, size_zeroCells, hzs, ← Nat.add_mul]
        congr 1; omega

/-- appending nothing -/
theorem append_none (w : World) {t ty el : TypeId} {i : TypeInfo} (ht : P.underlying t = some (.slice el)) (hi : P.info? el = some i)
    {n cap c : Nat} {ad ay : Option Addr} (hcap : n ≤ cap) :
    (Builtin.append_ #[t, t] ty #[.slice ad n cap, .slice ay 0 c]).run P w = .ok (.slice ad n cap) w := by
  cases ad <;> cases ay <;> simp [Builtin.append_, run_underlying ht, sizeOf, typeInfo, hi, Builtin.lenOf, Builtin.firstCells, hcap, loadCells, loadCellsFrom, storeCells]
end
end Abs
end Go.Proofs.Ytkbblglbbfdnpaa
