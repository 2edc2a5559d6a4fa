/- A run of a call that is handed no memory: the operations that read at most, third part. -/
import Derived.Test.YtapidabhdbjnmaaRnf
namespace Go.Proofs.Ytapidabhdbjnmaa
namespace Rn

variable {P : Program} {p : Pl}

theorem kind_eq {k k' : IntKind} (h : sameKind k k' = true) : k = k' := by
  cases k <;> cases k' <;> first | rfl | cases h

theorem flat_int (k : IntKind) (n : Int) : flat (.int k n) = true := rfl
theorem flat_bool (b : Bool) : flat (.bool b) = true := rfl

theorem run_binI {op : BinOp} {k : IntKind} {a b : Int} {u : Value} (h : binI op k a b = some u) (t : TypeId) (x y : Operand) (w : World) :
    (do eqGuard op t x y (.int k a) (.int k b); binOp op t (.int k a) (.int k b) : Sem Value).run P w = .ok u w ∧ flat u = true := by
  have hg : ∀ op, (eqGuard op t x y (.int k a) (.int k b)).run P w = .ok () w := by
    intro op
    unfold eqGuard
    cases op <;> rfl
  have hb : (binOp op t (.int k a) (.int k b)).run P w = .ok u w ∧ flat u = true := by
    cases op <;> simp only [binI, divI, bitsI] at h
    case quo =>
      by_cases h0 : b = 0
      · simp [h0] at h
      · simp only [h0, decide_false, cond_false] at h
        injection h with h; subst h
        exact ⟨by simp [binOp, Op.intDiv, h0], rfl⟩
    case rem =>
      by_cases h0 : b = 0
      · simp [h0] at h
      · simp only [h0, decide_false, cond_false] at h
        injection h with h; subst h
        exact ⟨by simp [binOp, Op.intDiv, h0], rfl⟩
    all_goals first
      | cases h; done
      | (injection h with h; subst h; exact ⟨by simp [binOp, Op.intArith, Op.intBits, Op.intCmp], rfl⟩)
  refine ⟨?_, hb.2⟩
  show ((eqGuard op t x y (.int k a) (.int k b)).bind fun _ => binOp op t (.int k a) (.int k b)).run P w = _
  rw [run_bind_ok _ _ (hg op)]
  exact hb.1

theorem vr_ptr_opt {b : Option Addr} {v : Value} (h : VR p (.pointer b) v) : ∃ b', v = .pointer b' ∧ b'.isNone = b.isNone := by
  cases b with
  | none => exact ⟨none, vr_ptr_none h, rfl⟩
  | some a => obtain ⟨a', rfl, _⟩ := vr_ptr h; exact ⟨_, rfl, rfl⟩
theorem vr_slice_opt {b : Option Addr} {n c : Nat} {v : Value} (h : VR p (.slice b n c) v) : ∃ b' c', v = .slice b' n c' ∧ b'.isNone = b.isNone := by
  cases b with
  | none => exact ⟨none, _, vr_slice_none h, rfl⟩
  | some a => obtain ⟨a', c', rfl, _⟩ := vr_slice h; exact ⟨_, _, rfl, rfl⟩
theorem vr_map_opt {b : Option Nat} {v : Value} (h : VR p (.map b) v) : ∃ b', v = .map b' ∧ b'.isNone = b.isNone := by
  cases b with
  | none => exact ⟨none, vr_map_none h, rfl⟩
  | some a => obtain ⟨a', rfl, _⟩ := vr_map h; exact ⟨_, rfl, rfl⟩

theorem eqA_rel {d : TypeDesc} {x y x' y' : Value} {b : Bool} (hx : VR p x x') (hy : VR p y y') (h : eqA d x y = some b) : eqA d x' y' = some b := by
  unfold eqA at h
  split at h <;> try (cases h; done)
  · obtain ⟨b', rfl, e⟩ := vr_ptr_opt hy
    rw [vr_ptr_none hx]
    simp only [eqA, e]; exact h
  · obtain ⟨a', rfl, _⟩ := vr_ptr hx
    rw [vr_ptr_none hy]; exact h
  · rw [vr_nilIface hx]
    obtain ⟨_, rfl, _⟩ := vr_iface hy
    exact h
  · rw [vr_nilIface hy]
    obtain ⟨_, rfl, _⟩ := vr_iface hx
    exact h
  · obtain ⟨b', c', rfl, e⟩ := vr_slice_opt hy
    rw [vr_slice_none hx]
    simp only [eqA, e]; exact h
  · obtain ⟨a', c', rfl, _⟩ := vr_slice hx
    rw [vr_slice_none hy]; exact h
  · obtain ⟨b', rfl, e⟩ := vr_map_opt hy
    rw [vr_map_none hx]
    simp only [eqA, e]; exact h
  · obtain ⟨a', rfl, _⟩ := vr_map hx
    rw [vr_map_none hy]; exact h
  · rw [vr_nilFunc hx]
    obtain ⟨_, _, _, rfl, _⟩ := vr_func hy
    exact h
  · rw [vr_nilFunc hy]
    obtain ⟨_, _, _, rfl, _⟩ := vr_func hx
    exact h

theorem run_eqA {d : TypeDesc} {t : TypeId} (hd : P.underlying t = some d) {x y : Value} {b : Bool} (h : eqA d x y = some b) (w : World) : (Op.equal t x y).run P w = .ok b w := by
  unfold Op.equal
  obtain ⟨n, hn⟩ : ∃ n, Op.maxDepth = n + 1 := ⟨9999, rfl⟩
  rw [hn]
  unfold eqA at h
  split at h <;> first
    | (cases h; done)
    | (injection h with h; subst h; simp [Op.equalIn, ru hd])

theorem eqGuard_ok {op : BinOp} {d : TypeDesc} {t : TypeId} {x y : Value} {b : Bool} (h : eqA d x y = some b) (ox oy : Operand) (w : World) : (eqGuard op t ox oy x y).run P w = .ok () w := by
  unfold eqGuard
  unfold eqA at h
  split at h <;> first
    | (cases h; done)
    | (cases op <;> rfl)

theorem binOp_eql {d : TypeDesc} {t : TypeId} (hd : P.underlying t = some d) {x y : Value} {b : Bool} (h : eqA d x y = some b) (w : World) :
    (binOp .eql t x y).run P w = .ok (.bool b) w ∧ (binOp .neq t x y).run P w = .ok (.bool !b) w := by
  have he := run_eqA hd h w
  have h' := h
  unfold eqA at h
  split at h <;> first
    | (cases h; done)
    | (constructor <;> simp [binOp, he])

theorem peek_eqOp {op : BinOp} {t : TypeId} {x y x' y' u : Value} (hx : VR p x x') (hy : VR p y y') (h : eqOp P op t x y = some u) (ox oy : Operand) (w : World) :
    Peeks P p w (do eqGuard op t ox oy x' y'; binOp op t x' y') u := by
  unfold eqOp at h
  split at h
  · cases h
  · rename_i d hd
    split at h
    · split at h
      · rename_i b hb
        have hb' := eqA_rel hx hy hb
        injection h with h
        refine ⟨.bool b, ?_, h ▸ .flat rfl⟩
        show ((eqGuard .eql t ox oy x' y').bind fun _ => binOp .eql t x' y').run P w = _
        rw [run_bind_ok _ _ (eqGuard_ok hb' ox oy w)]
        exact (binOp_eql hd hb' w).1
      · cases h
    · split at h
      · rename_i b hb
        have hb' := eqA_rel hx hy hb
        injection h with h
        refine ⟨.bool !b, ?_, h ▸ .flat rfl⟩
        show ((eqGuard .neq t ox oy x' y').bind fun _ => binOp .neq t x' y').run P w = _
        rw [run_bind_ok _ _ (eqGuard_ok hb' ox oy w)]
        exact (binOp_eql hd hb' w).2
      · cases h
    · cases h

theorem peek_assert {w : World} {t xt : TypeId} {ok : Bool} {v v' u : Value} (hv : VR p v v') (h : pAssert P t ok v = some u) : Peeks P p w (Instr.typeAssert v' xt t ok) u := by
  unfold pAssert at h
  split at h
  · rename_i d t' x hd
    obtain ⟨x', rfl, hx⟩ := vr_iface hv
    cases hb : (!isIfaceB d && Nat.beq t' t) with
    | false => rw [hb] at h; cases h
    | true =>
      rw [hb, cond_true] at h
      injection h with h
      obtain ⟨h1, h2⟩ := and_true' hb
      have h2 := nb h2
      subst h2
      have h1 : isIfaceB d = false := by simpa using h1
      cases ok with
      | true =>
        refine ⟨.tuple #[x', .bool true], ?_, ?_⟩
        · cases d <;> first | (cases h1; done) | simp [Instr.typeAssert, ru hd]
        · rw [← h]
          exact .tuple rfl fun i v v' a b => by
            match i with
            | 0 => simp at a b; subst a; subst b; exact hx
            | 1 => simp at a b; subst a; subst b; exact .flat rfl
            | n + 2 => simp at a
      | false =>
        refine ⟨x', ?_, ?_⟩
        · cases d <;> first | (cases h1; done) | simp [Instr.typeAssert, ru hd]
        · rw [← h]; exact hx
  · cases h

/-! ### Maps -/

theorem ER.cons_inv {e : MapEntry} {l m : List MapEntry} (h : ER p (e :: l) m) : ∃ e' l', m = e' :: l' ∧ VR p e.key e'.key ∧ VR p e.val e'.val ∧ e.born = e'.born ∧ ER p l l' := by
  obtain ⟨h1, h2⟩ := h
  cases m with
  | nil => simp at h1
  | cons e' l' =>
    obtain ⟨a, b, c⟩ := h2 0 e e' rfl rfl
    exact ⟨e', l', rfl, a, b, c, by simpa using h1, fun i u u' x y => h2 (i + 1) u u' (by simpa using x) (by simpa using y)⟩
theorem ER.nil_inv {m : List MapEntry} (h : ER p [] m) : m = [] := by cases m with | nil => rfl | cons a b => have := h.1; simp at this

def blank (e : MapEntry) : MapEntry := { e with val := undef }

/-- What 'findNow' says of the blank entries it says of the entries. -/
theorem findNow_blank {d : TypeDesc} {k : Value} : ∀ (l l' : List MapEntry) (i : Nat), ER p l l' → (∀ e ∈ l, flat e.key = true) →
    (Instr.findNow d k (l.map blank) i = none → Instr.findNow d k l' i = none) ∧
    (Instr.findNow d k (l.map blank) i = some none → Instr.findNow d k l' i = some none) ∧
    (∀ j v, Instr.findNow d k (l.map blank) i = some (some (j, v)) → i ≤ j ∧ ∃ e e', l[j - i]? = some e ∧ l'[j - i]? = some e' ∧ Instr.findNow d k l' i = some (some (j, e'.val)))
  | [], l', i, h, _ => by
    rw [h.nil_inv]
    refine ⟨fun h => h, fun h => h, fun j v h => by cases h⟩
  | e :: l, l', i, h, hf => by
    obtain ⟨e', m, rfl, hk, hv, hb, hl⟩ := h.cons_inv
    have hke : e'.key = e.key := vr_eq hk (hf e (by simp))
    obtain ⟨i1, i2, i3⟩ := findNow_blank l m (i + 1) hl (fun x hx => hf x (by simp [hx]))
    simp only [List.map_cons, Instr.findNow, hke]
    have hbk : (blank e).key = e.key := rfl
    rw [hbk]
    cases hs : Instr.sameNow d k e.key with
    | none => exact ⟨fun _ => rfl, fun h => (by cases h), fun j v h => (by cases h)⟩
    | some b =>
      cases b with
      | true =>
        refine ⟨fun h => (by cases h), fun h => (by cases h), fun j v h => ?_⟩
        injection h with h
        injection h with h
        injection h with h1 h2
        subst h1
        exact ⟨Nat.le_refl _, e, e', by simp, by simp, rfl⟩
      | false =>
        refine ⟨i1, i2, fun j v h => ?_⟩
        obtain ⟨g1, x, x', g2, g3, g4⟩ := i3 j v h
        refine ⟨by omega, x, x', ?_, ?_, g4⟩
        · rw [show j - i = (j - (i + 1)) + 1 by omega]; simpa using g2
        · rw [show j - i = (j - (i + 1)) + 1 by omega]; simpa using g3

theorem findAsking_blank {kt : TypeId} {k : Value} : ∀ (l l' : List MapEntry) (i : Nat) (r : Option (Nat × Value)), ER p l l' → (∀ e ∈ l, flat e.key = true) → pureRun P (Instr.findAsking kt k (l.map blank) i) = some r →
    (r = none → ∀ w, (Instr.findAsking kt k l' i).run P w = .ok none w) ∧
    (∀ j v, r = some (j, v) → i ≤ j ∧ ∃ e e', l[j - i]? = some e ∧ l'[j - i]? = some e' ∧ ∀ w, (Instr.findAsking kt k l' i).run P w = .ok (some (j, e'.val)) w)
  | [], l', i, r, h, _, hr => by
    rw [h.nil_inv]
    injection hr with hr
    subst hr
    exact ⟨fun _ w => rfl, fun j v h => by cases h⟩
  | e :: l, l', i, r, h, hf, hr => by
    obtain ⟨e', m, rfl, hk, hv, hb, hl⟩ := h.cons_inv
    have hke : e'.key = e.key := vr_eq hk (hf e (by simp))
    have hr : pureRun P ((Op.equal kt k e.key).bind fun b => if b = true then .pure (some (i, undef)) else Instr.findAsking kt k (l.map blank) (i + 1)) = some r := hr
    rw [pureRun_bind] at hr
    have hgo : ∀ w, (Instr.findAsking kt k (e' :: m) i).run P w = ((Op.equal kt k e.key).bind fun b => if b = true then .pure (some (i, e'.val)) else Instr.findAsking kt k m (i + 1)).run P w := fun w => by rw [← hke]; rfl
    cases hq : pureRun P (Op.equal kt k e.key) with
    | none => rw [hq] at hr; cases hr
    | some b =>
      rw [hq] at hr
      simp only [Option.bind_some] at hr
      cases b with
      | true =>
        simp only [if_true] at hr
        injection hr with hr
        subst hr
        refine ⟨fun h => by (cases h), fun j v h => ?_⟩
        injection h with h
        injection h with h1 h2
        subst h1
        refine ⟨Nat.le_refl _, e, e', by simp, by simp, fun w => ?_⟩
        rw [hgo, run_bind_ok _ _ (pureRun_run _ _ hq w)]
        rfl
      | false =>
        simp only [Bool.false_eq_true, if_false] at hr
        obtain ⟨i1, i2⟩ := findAsking_blank l m (i + 1) r hl (fun x hx => hf x (by simp [hx])) hr
        refine ⟨fun h w => ?_, fun j v h => ?_⟩
        · rw [hgo, run_bind_ok _ _ (pureRun_run _ _ hq w)]
          exact i1 h w
        · obtain ⟨g1, x, x', g2, g3, g4⟩ := i2 j v h
          refine ⟨by omega, x, x', ?_, ?_, fun w => ?_⟩
          · rw [show j - i = (j - (i + 1)) + 1 by omega]; simpa using g2
          · rw [show j - i = (j - (i + 1)) + 1 by omega]; simpa using g3
          · rw [hgo, run_bind_ok _ _ (pureRun_run _ _ hq w)]
            exact g4 w

theorem pu {t : TypeId} {a : TypeDesc} (h : pureRun P (underlying t) = some a) : P.underlying t = some a := by
  have h : pureRun P (match P.underlying t with | some i => Sem.pure i | none => stuck "no such type") = some a := h
  cases hu : P.underlying t with
  | none => rw [hu] at h; cases h
  | some d => rw [hu] at h; exact h

theorem find_ok {kt : TypeId} {k : Value} {l l' : List MapEntry} {r : Option Nat} (h : ER p l l') (hf : keysFlat l = true) (hr : findA P kt k l = some r) :
    (r = none → ∀ w, (Instr.findKey kt k l').run P w = .ok none w) ∧
    (∀ j, r = some j → ∃ e e', l[j]? = some e ∧ l'[j]? = some e' ∧ VR p e.key e'.key ∧ VR p e.val e'.val ∧ e.born = e'.born ∧ ∀ w, (Instr.findKey kt k l').run P w = .ok (some (j, e'.val)) w) := by
  have hf : ∀ e ∈ l, flat e.key = true := by
    unfold keysFlat at hf
    rw [List.all_eq_true] at hf
    exact hf
  unfold findA at hr
  have hbl : (l.map fun e => { e with val := undef }) = l.map blank := rfl
  rw [hbl] at hr
  split at hr
  · rename_i r0 hr0
    injection hr with hr
    have hr0 : pureRun P ((underlying kt).bind fun d => match Instr.findNow d k (l.map blank) 0 with | some r => .pure r | none => Instr.findAsking kt k (l.map blank)) = some r0 := hr0
    rw [pureRun_bind] at hr0
    cases hd : pureRun P (underlying kt) with
    | none => rw [hd] at hr0; cases hr0
    | some d =>
      rw [hd] at hr0
      simp only [Option.bind_some] at hr0
      have hd' := pu hd
      have hgo : ∀ w, (Instr.findKey kt k l').run P w = (match Instr.findNow d k l' 0 with | some r => Sem.pure r | none => Instr.findAsking kt k l').run P w := fun w => by
        show ((underlying kt).bind fun d => match Instr.findNow d k l' 0 with | some r => .pure r | none => Instr.findAsking kt k l').run P w = _
        rw [run_bind_ok _ _ (ru hd' w)]
      obtain ⟨i1, i2, i3⟩ := findNow_blank (d := d) (k := k) l l' 0 h hf
      cases hn : Instr.findNow d k (l.map blank) 0 with
      | none =>
        rw [hn] at hr0
        simp only at hr0
        have hn' := i1 hn
        obtain ⟨j1, j2⟩ := findAsking_blank (P := P) (kt := kt) (k := k) l l' 0 r0 h hf hr0
        refine ⟨fun h0 w => ?_, fun j hj => ?_⟩
        · rw [hgo, hn']
          refine j1 ?_ w
          cases r0 with
          | none => rfl
          | some x => rw [← hr] at h0; cases h0
        · cases r0 with
          | none => rw [← hr] at hj; cases hj
          | some x =>
            obtain ⟨y, v⟩ := x
            rw [← hr] at hj
            injection hj with hj
            subst hj
            obtain ⟨g1, e, e', g2, g3, g4⟩ := j2 y v rfl
            obtain ⟨k1, k2, k3⟩ := h.2 y e e' (by simpa using g2) (by simpa using g3)
            exact ⟨e, e', by simpa using g2, by simpa using g3, k1, k2, k3, fun w => by rw [hgo, hn']; exact g4 w⟩
      | some r1 =>
        rw [hn] at hr0
        simp only [pureRun] at hr0
        injection hr0 with hr0
        subst hr0
        cases r1 with
        | none =>
          have hn' := i2 hn
          exact ⟨fun h0 w => (by rw [hgo, hn']; rfl), fun j hj => (by rw [← hr] at hj; cases hj)⟩
        | some x =>
          obtain ⟨y, v⟩ := x
          obtain ⟨g1, e, e', g2, g3, g4⟩ := i3 y v hn
          refine ⟨fun h0 => (by rw [← hr] at h0; cases h0), fun j hj => ?_⟩
          rw [← hr] at hj
          injection hj with hj
          subst hj
          obtain ⟨k1, k2, k3⟩ := h.2 y e e' (by simpa using g2) (by simpa using g3)
          exact ⟨e, e', by simpa using g2, by simpa using g3, k1, k2, k3, fun w => by rw [hgo, g4]; rfl⟩
  · cases hr

end Rn
end Go.Proofs.Ytapidabhdbjnmaa
