/- A run of a call that is handed no memory: any operation that reads at most. -/
import Derived.Test.YtapidabhdbjnmaaRnh
namespace Go.Proofs.Ytapidabhdbjnmaa
namespace Rn

variable {P : Program} {p : Pl}

theorem peeks_exec {w : World} {e : Sem Value} {v : Value} (h : Peeks P p w e v) : ∃ v', (do pure (.value (← e)) : Sem Next).run P w = .ok (.value v') w ∧ VR p v v' := by
  obtain ⟨v', h1, h2⟩ := h
  refine ⟨v', ?_, h2⟩
  show (e.bind fun v => Sem.pure (Next.value v)).run P w = _
  rw [run_bind_ok _ _ h1]; rfl

theorem peek_nil {w : World} {v v' u : Value} (hv : VR p v v') (h : pNil v = some u) :
    ∃ u', VR p u u' ∧ u' = v' ∧ ((∃ a, v' = .pointer (some a)) ∨ (∃ f a c, v' = .func (.func f) a c) ∨ (∃ a n c, v' = .slice a n c) ∨ (∃ r, v' = .map (some r)) ∨ (∃ t x, v' = .iface t x)) := by
  unfold pNil at h
  split at h
  · injection h with h; subst h
    obtain ⟨a', rfl, ha⟩ := vr_ptr hv
    exact ⟨_, hv, rfl, .inl ⟨_, rfl⟩⟩
  · injection h with h; subst h
    obtain ⟨f', a', c', rfl, hf, _⟩ := vr_func hv
    cases hf with
    | same _ => exact ⟨_, hv, rfl, .inr (.inl ⟨_, _, _, rfl⟩)⟩
  · injection h with h; subst h
    obtain ⟨b', c', rfl, _⟩ := vr_slice_opt hv
    exact ⟨_, hv, rfl, .inr (.inr (.inl ⟨_, _, _, rfl⟩))⟩
  · injection h with h; subst h
    obtain ⟨r', rfl, _⟩ := vr_map hv
    exact ⟨_, hv, rfl, .inr (.inr (.inr (.inl ⟨_, rfl⟩)))⟩
  · injection h with h; subst h
    obtain ⟨x', rfl, _⟩ := vr_iface hv
    exact ⟨_, hv, rfl, .inr (.inr (.inr (.inr ⟨_, _, rfl⟩)))⟩
  · cases h

theorem pr_map {tm : Tm} {a : Act} : ∀ (l : List (Nat × Operand)), (∀ x ∈ l, VR p (tm.eval x.2) (a.eval x.2)) → PR p (l.map fun (i, x) => (i, tm.eval x)) (l.map fun (i, x) => (i, a.eval x))
  | [], _ => trivial
  | (i, x) :: l, h => ⟨rfl, h (i, x) (by simp), pr_map l fun y hy => h y (by simp [hy])⟩

theorem optR_map {tm : Tm} {a : Act} (x : Option Operand) (h : ∀ y ∈ x.toArray, VR p (tm.eval y) (a.eval y)) : OptR p (x.map tm.eval) (x.map a.eval) := by
  cases x with
  | none => trivial
  | some y => exact h y (by simp)

theorem lr_map {tm : Tm} {a : Act} : ∀ (l : List Operand), (∀ x ∈ l, VR p (tm.eval x) (a.eval x)) → LR p (l.map tm.eval) (l.map a.eval)
  | [], _ => .nil p
  | x :: l, h => .cons (h x (by simp)) (lr_map l fun y hy => h y (by simp [hy]))

theorem peek_len {c : Ctx} {s : St} {w : World} (hm : M c p s w) {t r : TypeId} {x x' u : Value} (hv : VR p x x') (h : lenA P s t x = some u) : Peeks P p w (Builtin.len_ #[t] r #[x']) u := by
  unfold lenA at h
  split at h
  · rename_i e b n cp hd
    injection h with h
    obtain ⟨b', c', rfl, _⟩ := vr_slice_opt hv
    exact ⟨goInt n, by simp [Builtin.len_, ru hd], h ▸ .flat rfl⟩
  · rename_i k e hd
    injection h with h
    rw [vr_map_none hv]
    exact ⟨goInt 0, by simp [Builtin.len_, ru hd], h ▸ .flat rfl⟩
  · rename_i k e r0 hd
    obtain ⟨r', rfl, hr⟩ := vr_map hv
    split at h
    · rename_i es clock hg
      injection h with h
      obtain ⟨es', h1, h2⟩ := get_map hm hr hg
      have : es'.size = es.length := by simpa using h2.1.symm
      exact ⟨goInt es'.size, by simp [Builtin.len_, ru hd, run_getMap h1], by rw [this]; exact h ▸ .flat rfl⟩
    · cases h
  · cases h

theorem peek_sound (hz : Zeros P) {c : Ctx} {s : St} {w : World} {tm : Tm} {a : Act} {o : Oper} {v : Value} (hm : M c p s w) (ho : OpR p tm a o.op) (hk : kind P o.op = 0) (h : peekOp P o tm s = some v) :
    ∃ v', (execOp a.eval o).run P w = .ok (.value v') w ∧ VR p v v' := by
  have hv := ho.vr
  have hfl : (∀ cs b, o.op ≠ .select cs b) → flatOp P o tm = some v → ∃ v', (execOp a.eval o).run P w = .ok (.value v') w ∧ VR p v v' := fun hs hf =>
    let ⟨h1, h2⟩ := flat_op ho hs hf w
    ⟨v, h1, .flat h2⟩
  unfold peekOp at h
  cases hop : o.op with
  | move x =>
    rw [hop] at h hv
    injection h with h
    exact ⟨a.eval x, by simp only [execOp, hop]; rfl, h ▸ hv x (by simp [Op.operands])⟩
  | assign x =>
    rw [hop] at h hv
    injection h with h
    exact ⟨a.eval x, by simp only [execOp, hop]; rfl, h ▸ hv x (by simp [Op.operands])⟩
  | pick x y z =>
    rw [hop] at h hv
    simp only [execOp, hop]
    obtain ⟨v', h1, h2⟩ := peeks_exec (peek_pick (P := P) (w := w) (hv x (by simp [Op.operands])) (hv y (by simp [Op.operands])) (hv z (by simp [Op.operands])) h)
    refine ⟨v', ?_, h2⟩
    rw [← h1]
    cases a.eval x <;> rfl
  | alloc t => rw [hop] at hk; cases hk
  | box t x => rw [hop] at hk; cases hk
  | buildSlice t n ps => rw [hop] at hk; cases hk
  | makeMap t r => rw [hop] at hk; cases hk
  | makeSlice t l c => rw [hop] at hk; cases hk
  | store t x y => rw [hop] at hk; cases hk
  | mapUpdate t x y z => rw [hop] at hk; cases hk
  | insert t x y z => rw [hop] at hk; cases hk
  | range t x => rw [hop] at hk; cases hk
  | next x b => rw [hop] at hk; cases hk
  | build t ps =>
    rw [hop] at h hv
    simp only [execOp, hop]
    refine peeks_exec (peek_build hz ?_ h)
    simp only [Array.toList_map]
    exact pr_map ps.toList fun x hx => hv x.2 (by simp [Op.operands]; exact ⟨x.1, by simpa using hx⟩)
  | load t x =>
    rw [hop] at h hv
    simp only [execOp, hop]
    exact peeks_exec (peek_load hm (hv x (by simp [Op.operands])) h)
  | nilCheck x =>
    rw [hop] at h hv
    simp only [execOp, hop]
    obtain ⟨u', h1, rfl, h3⟩ := peek_nil (w := w) (hv x (by simp [Op.operands])) h
    refine ⟨a.eval x, ?_, h1⟩
    rcases h3 with ⟨b, e⟩ | ⟨f, b, d, e⟩ | ⟨b, n, d, e⟩ | ⟨r, e⟩ | ⟨t, y, e⟩ <;> rw [e] <;> rfl
  | binOp op t x y yt =>
    rw [hop] at h hv
    have hx := hv x (by simp [Op.operands])
    have hy := hv y (by simp [Op.operands])
    replace h : pBin P o tm op t (tm.eval x) (tm.eval y) = some v := h
    unfold pBin at h
    split at h
    · rename_i k i k' j ex ey
      cases hsh : isShift op with
      | true => rw [hsh] at h; exact hfl (by rw [hop]; intro _ _ e; cases e) h
      | false =>
        rw [hsh, bi_false] at h
        cases hsk : sameKind k k' with
        | false => rw [hsk] at h; exact hfl (by rw [hop]; intro _ _ e; cases e) h
        | true =>
          rw [hsk, bi_true] at h
          have := kind_eq hsk
          subst this
          rw [ex] at hx
          rw [ey] at hy
          simp only [execOp, hop, vr_int hx, vr_int hy]
          obtain ⟨h1, h2⟩ := run_binI (P := P) h t x y w
          exact peeks_exec ⟨v, h1, .flat h2⟩
    · cases haf : allFlat tm o.op with
      | true => rw [haf, cond_true] at h; exact hfl (by rw [hop]; intro _ _ e; cases e) h
      | false =>
        rw [haf, cond_false] at h
        simp only [execOp, hop]
        exact peeks_exec (peek_eqOp hx hy h x y w)
  | convert sr d x =>
    rw [hop] at h hv
    replace h : (bif flat (tm.eval x) then flatOp P o tm else pConv P s sr d (tm.eval x)) = some v := h
    cases hf : flat (tm.eval x) with
    | true => rw [hf, cond_true] at h; exact hfl (by rw [hop]; intro _ _ e; cases e) h
    | false =>
      rw [hf, cond_false] at h
      simp only [execOp, hop]
      exact peeks_exec (peek_conv hm (hv x (by simp [Op.operands])) h)
  | makeInterface t x =>
    rw [hop] at h hv
    simp only [execOp, hop]
    exact peeks_exec (peek_iface (hv x (by simp [Op.operands])) h)
  | makeFunc fn first captured =>
    rw [hop] at h hv
    replace h : pFunc fn (first.map tm.eval) (captured.map tm.eval) = some v := h
    unfold pFunc at h
    split at h
    · rename_i f
      injection h with h
      simp only [execOp, hop]
      refine ⟨.func (.func f) (first.map a.eval) (captured.map a.eval), rfl, ?_⟩
      rw [← h]
      have e1 := lr_map (p := p) (tm := tm) (a := a) first.toList fun x hx => hv x (by simp [Op.operands]; exact .inl (by simpa using hx))
      have e2 := lr_map (p := p) (tm := tm) (a := a) captured.toList fun x hx => hv x (by simp [Op.operands]; exact .inr (by simpa using hx))
      exact .func (.same fun l => by simp) (by simp) (by simp) (fun i v v' x y => e1.2 i v v' (by simpa using x) (by simpa using y)) (fun i v v' x y => e2.2 i v v' (by simpa using x) (by simpa using y))
    · cases h
  | slice t x lo hi mx =>
    rw [hop] at h hv
    have hx := hv x (by simp [Op.operands])
    have h1 := optR_map (p := p) (tm := tm) (a := a) lo fun y hy => hv y (by simp [Op.operands]; simp at hy; simp [hy])
    have h2 := optR_map (p := p) (tm := tm) (a := a) hi fun y hy => hv y (by simp [Op.operands]; simp at hy; simp [hy])
    have h3 := optR_map (p := p) (tm := tm) (a := a) mx fun y hy => hv y (by simp [Op.operands]; simp at hy; simp [hy])
    replace h : pSlice P o tm s t (tm.eval x) (lo.map tm.eval) (hi.map tm.eval) (mx.map tm.eval) = some v := h
    unfold pSlice at h
    split at h
    · rename_i b n cp e
      rw [e] at hx
      cases hc : Nat.blt cp K with
      | true =>
        rw [hc, cond_true] at h
        simp only [execOp, hop]
        exact peeks_exec (peek_sliceX hx (fun a n c e => by injection e with _ _ e; subst e; exact blt hc) h1 h2 h3 (by rw [e] at h; exact h))
      | false =>
        rw [hc, cond_false] at h
        simp only [execOp, hop]
        exact peeks_exec (peek_sliceA hm hx (fun hlt => by rw [bltt hlt] at hc; cases hc) h1 h2 h3 h)
    · rename_i b e
      rw [e] at hx
      simp only [execOp, hop]
      exact peeks_exec (peek_sliceX hx (fun a n c e => by cases e) h1 h2 h3 (by rw [e] at h; exact h))
    · exact hfl (by rw [hop]; intro _ _ e; cases e) h
  | fieldAddr t x i =>
    rw [hop] at h hv
    simp only [execOp, hop]
    exact peeks_exec (peek_fieldAddr (hv x (by simp [Op.operands])) h)
  | field t x i =>
    rw [hop] at h hv
    simp only [execOp, hop]
    exact peeks_exec (peek_field hm (hv x (by simp [Op.operands])) h)
  | indexAddr t x i =>
    rw [hop] at h hv
    simp only [execOp, hop]
    exact peeks_exec (peek_indexA (hv x (by simp [Op.operands])) (hv i (by simp [Op.operands])) h)
  | index t x i =>
    rw [hop] at h hv
    replace h : (match tm.eval x with | .agg cs => pIndex P t cs (tm.eval i) | _ => flatOp P o tm) = some v := h
    split at h
    · rename_i cs e
      have hx := hv x (by simp [Op.operands])
      rw [e] at hx
      simp only [execOp, hop]
      exact peeks_exec (peek_indexV hm hx (hv i (by simp [Op.operands])) h)
    · exact hfl (by rw [hop]; intro _ _ e; cases e) h
  | lookup t m k ok =>
    rw [hop] at h hv
    simp only [execOp, hop]
    exact peeks_exec (peek_lookup hz hm (hv m (by simp [Op.operands])) (hv k (by simp [Op.operands])) h)
  | typeAssert x xt t ok =>
    rw [hop] at h hv
    replace h : (bif flat (tm.eval x) then flatOp P o tm else pAssert P t ok (tm.eval x)) = some v := h
    cases hf : flat (tm.eval x) with
    | true => rw [hf, cond_true] at h; exact hfl (by rw [hop]; intro _ _ e; cases e) h
    | false =>
      rw [hf, cond_false] at h
      simp only [execOp, hop]
      exact peeks_exec (peek_assert (hv x (by simp [Op.operands])) h)
  | extract x i =>
    rw [hop] at h hv
    simp only [execOp, hop]
    exact peeks_exec (peek_extract (hv x (by simp [Op.operands])) h)
  | select cs b => rw [hop] at h; cases h
  | defer cl => rw [hop] at h; cases h
  | call cl =>
    rw [hop] at h hv
    replace h : pCall P o tm s cl = some v := h
    unfold pCall at h
    split at h
    · rename_i t x ec et ex
      have hx := hv x (by simp [Op.operands, Call.operands]; right; rw [← Array.mem_toList_iff, ex]; simp)
      have hargs : cl.args = #[x] := by apply Array.toList_inj.1; rw [ex]
      have htys : cl.argTypes = #[t] := by apply Array.toList_inj.1; rw [et]
      unfold pLen at h
      split at h
      · rename_i u hu
        injection h with h
        subst h
        have hmap : (#[x] : Array Operand).map a.eval = #[a.eval x] := by simp
        have := peeks_exec (peek_len (P := P) (r := o.type) hm hx hu)
        simp only [execOp, hop, resolve, ec, hargs, htys, hmap]
        exact this
      · exact hfl (by rw [hop]; intro _ _ e; cases e) h
    · rename_i t x ec et ex
      have hx := hv x (by simp [Op.operands, Call.operands]; right; rw [← Array.mem_toList_iff, ex]; simp)
      have hargs : cl.args = #[x] := by apply Array.toList_inj.1; rw [ex]
      have htys : cl.argTypes = #[t] := by apply Array.toList_inj.1; rw [et]
      have := peeks_exec (peek_cap (P := P) (w := w) (ts := #[t]) (r := o.type) rfl hx h)
      have hmap : (#[x] : Array Operand).map a.eval = #[a.eval x] := by simp
      simp only [execOp, hop, resolve, ec, hargs, htys, hmap]
      exact this
    · exact hfl (by rw [hop]; intro _ _ e; cases e) h
  | _ =>
    rw [hop] at h
    exact hfl (by rw [hop]; intro _ _ e; cases e) h

end Rn
end Go.Proofs.Ytapidabhdbjnmaa
