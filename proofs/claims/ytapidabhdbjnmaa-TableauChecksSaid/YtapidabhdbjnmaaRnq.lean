/- A run of a call that is handed no memory: calls; any operation that may write. -/
import Derived.Test.YtapidabhdbjnmaaRnp
namespace Go.Proofs.Ytapidabhdbjnmaa
namespace Rn

variable {P : Program} {p : Pl} {c : Ctx} {s s' : St} {w : World}

theorem arun_acts {e e' : Sem Value} (hm : M c p s w) (hr : Rel P VR p e e') {nx : Nx} (h : valOf (arun P e s) = some (nx, s')) : Acts P c p w (do pure (.value (← e'))) nx s' := by
  unfold valOf at h
  split at h
  · rename_i v s1 hv
    injection h with h
    injection h with e1 e2
    subst e1; subst e2
    obtain ⟨q, b, w', g1, g2, g3, g4⟩ := hr.sound s w v s1 hm hv
    exact acts_value g1 g3 g4 g2
  · cases h

theorem valOf_acts {e : Sem Value} {r : Option (Value × St)} {nx : Nx} (h : valOf r = some (nx, s')) (hr : ∀ v s1, r = some (v, s1) → ∃ q w' v', p.le q ∧ e.run P w = .ok v' w' ∧ M c q s1 w' ∧ VR q v v') :
    Acts P c p w (do pure (.value (← e))) nx s' := by
  unfold valOf at h
  split at h
  · rename_i v s1
    injection h with h
    injection h with e1 e2
    subst e1; subst e2
    obtain ⟨q, w', v', g1, g2, g3, g4⟩ := hr v s1 rfl
    exact acts_value g1 g2 g3 g4
  · cases h

theorem run_callFunc {g : FuncId} {fn : Func} {args : Array Value} (hf : P.funcs[g]? = some fn) (h1 : (fn.name == "runtime.NumGoroutine") = false) (h2 : fn.body.isNone = false) (w : World) :
    (callFunc g args).run P w = .ok (.enter g args) w := by
  show (match P.funcs[g]? with
    | none => stuck "call: no such function"
    | some fn => if fn.name == "runtime.NumGoroutine" then pure .numGoroutine else if fn.body.isNone then _ else pure (.enter g args) : Sem Next).run P w = _
  rw [hf]
  simp only [h1, h2]
  rfl

theorem callee_ok {g : FuncId} {args : List Value} {nx : Nx} (h : callee P g args s = some (nx, s')) : ∃ fn, P.funcs[g]? = some fn ∧ (fn.name == "runtime.NumGoroutine") = false ∧ fn.body.isNone = false ∧ nx = .enter g args ∧ s' = s := by
  unfold callee at h
  split at h
  · rename_i fn hf
    cases hb : (fn.name == "runtime.NumGoroutine" || fn.body.isNone) with
    | true => rw [hb] at h; cases h
    | false =>
      rw [hb, cond_false] at h
      injection h with h
      injection h with e1 e2
      obtain ⟨b1, b2⟩ := (Bool.or_eq_false_iff).1 hb
      exact ⟨fn, hf, b1, b2, e1.symm, e2.symm⟩
  · cases h

theorem exec_callVal {ρ : Operand → Value} {o : Oper} {f : Operand} {args : Array Operand} {ts : Array TypeId} (ho : o.op = .call { callee := .value f, args, argTypes := ts }) {fn : Fn} {first captured : Array Value} (hf : ρ f = .func fn first captured) :
    execOp ρ o = invoke (.fn fn captured) (first ++ args.map ρ) := by
  simp only [execOp, ho, resolve, hf, Deferred.ofValue]
  rfl

theorem act_callVal (hm : M c p s w) {tm : Tm} {a : Act} {o : Oper} {f : Operand} {args : Array Operand} {ts : Array TypeId} (ho : o.op = .call { callee := .value f, args, argTypes := ts }) (hO : OpR p tm a o.op) {nx : Nx}
    (h : callVal P o tm (tm.eval f) (args.toList.map tm.eval) s = some (nx, s')) : Acts P c p w (execOp a.eval o) nx s' := by
  have hv := hO.vr
  rw [ho] at hv
  have hf := hv f (by simp [Op.operands, Call.operands])
  have hargs := lr_map (p := p) (tm := tm) (a := a) args.toList fun x hx => hv x (by simp [Op.operands, Call.operands]; right; simpa using hx)
  unfold callVal at h
  split at h
  · rename_i l first captured e
    rw [e] at hf
    obtain ⟨f', a', c', e', hfr, h1, h2⟩ := vr_func hf
    injection h with h
    injection h with q1 q2
    subst q1; subst q2
    cases hfr with
    | same hne => exact (hne l rfl).elim
    | yield hp =>
      refine ⟨_, a' ++ args.map a.eval, ?_, ⟨_, _, hp⟩, ?_, hm⟩
      · rw [exec_callVal ho e']; rfl
      · rw [Array.toList_append, Array.toList_map]
        exact h1.append hargs
  · rename_i g first captured e
    rw [e] at hf
    obtain ⟨f', a', c', e', hfr, h1, h2⟩ := vr_func hf
    cases hfr with
    | same _ =>
      split at h
      · rename_i fn hfn
        cases hb : fn.body.isNone with
        | true =>
          rw [hb, cond_true] at h
          split at h
          · rename_i v hfl
            injection h with h
            injection h with q1 q2
            subst q1; subst q2
            obtain ⟨g1, g2⟩ := flat_op hO (by rw [ho]; intro _ _ e; cases e) hfl w
            exact ⟨p, w, .value v, p.le_refl, g1, hm, .inl ⟨v, rfl, .flat g2⟩⟩
          · cases h
        | false =>
          rw [hb, cond_false] at h
          obtain ⟨fn', k1, k2, k3, k4, k5⟩ := callee_ok h
          subst k4; subst k5
          refine ⟨a' ++ args.map a.eval ++ c', ?_, ?_, hm⟩
          · rw [exec_callVal ho e']
            exact run_callFunc k1 k2 k3 w
          · rw [Array.toList_append, Array.toList_append, Array.toList_map]
            exact (h1.append hargs).append h2
      · cases h
  · cases h

theorem exec_builtin {ρ : Operand → Value} {o : Oper} {b : Builtin} {args : Array Operand} {ts : Array TypeId} (ho : o.op = .call { callee := .builtin b, args, argTypes := ts }) :
    execOp ρ o = builtin b ts o.type (args.map fun | .const _ => true | _ => false) (args.map ρ) := by
  simp only [execOp, ho, resolve]
  rfl

theorem act_sound (hz : Zeros P) (hm : M c p s w) {tm : Tm} {a : Act} {o : Oper} {nx : Nx} (hO : OpR p tm a o.op) (h : actOp P o tm s = some (nx, s')) : Acts P c p w (execOp a.eval o) nx s' := by
  have hv := hO.vr
  unfold actOp at h
  split at h
  · rename_i t x y hop
    rw [hop] at hv
    have := act_store (P := P) hm (hv x (by simp [Op.operands])) (hv y (by simp [Op.operands])) h
    simp only [execOp, hop]
    exact this
  · rename_i t m k x hop
    rw [hop] at hv
    have := act_update (P := P) hm (hv m (by simp [Op.operands])) (hv k (by simp [Op.operands])) (hv x (by simp [Op.operands])) h
    simp only [execOp, hop]
    exact this
  · rename_i t m k x hop
    rw [hop] at hv
    have := act_update (P := P) hm (hv m (by simp [Op.operands])) (hv k (by simp [Op.operands])) (hv x (by simp [Op.operands])) h
    simp only [execOp, hop]
    exact this
  · rename_i t x hop
    rw [hop] at hv
    simp only [execOp, hop]
    exact arun_acts hm (rel_range t (hv x (by simp [Op.operands]))) h
  · rename_i x b hop
    rw [hop] at hv
    simp only [execOp, hop]
    exact arun_acts hm (rel_next o.type b (hv x (by simp [Op.operands]))) h
  · rename_i cl hop
    obtain ⟨ce, args, ts⟩ := cl
    unfold callOp at h
    cases ce with
    | value f => exact act_callVal hm hop hO h
    | invoke r n => cases h
    | builtin b =>
      rw [hop] at hv
      rw [exec_builtin hop]
      cases b with
      | append =>
        simp only at h
        split at h
        · rename_i x y e
          have hargs : args = #[x, y] := by apply Array.toList_inj.1; rw [e]
          subst hargs
          have hx := hv x (by simp [Op.operands, Call.operands])
          have hy := hv y (by simp [Op.operands, Call.operands])
          have hmap : (#[x, y] : Array Operand).map a.eval = #[a.eval x, a.eval y] := by simp
          rw [hmap]
          exact valOf_acts h fun v s1 hr => act_append hz hm hx hy hr
        · cases h
      | copy =>
        simp only at h
        split at h
        · rename_i x y e
          have hargs : args = #[x, y] := by apply Array.toList_inj.1; rw [e]
          subst hargs
          have hx := hv x (by simp [Op.operands, Call.operands])
          have hy := hv y (by simp [Op.operands, Call.operands])
          have hmap : (#[x, y] : Array Operand).map a.eval = #[a.eval x, a.eval y] := by simp
          rw [hmap]
          exact valOf_acts h fun v s1 hr => act_copy hm hx hy hr
        · cases h
      | clear =>
        simp only at h
        split at h
        · rename_i x e
          have hargs : args = #[x] := by apply Array.toList_inj.1; rw [e]
          subst hargs
          have hx := hv x (by simp [Op.operands, Call.operands])
          have hmap : (#[x] : Array Operand).map a.eval = #[a.eval x] := by simp
          rw [hmap]
          exact valOf_acts h fun v s1 hr => act_clear hz hm hx hr
        · cases h
      | _ => cases h
  · cases h

/-- Any operation. -/
theorem step_sound (hz : Zeros P) (hm : M c p s w) {tm : Tm} {a : Act} {o : Oper} {nx : Nx} (hT : TR p tm a.tmps) (h : stepOp P o tm s = some (nx, s')) : Acts P c p w (execOp a.eval o) nx s' := by
  unfold stepOp at h
  cases hco : constsOk o.op with
  | false => rw [hco] at h; cases h
  | true =>
    rw [hco, bi_true] at h
    have hO := opR hT hco
    unfold stepKind at h
    split at h
    · rename_i hk
      unfold peekStep at h
      split at h
      · rename_i v hv
        injection h with h
        injection h with e1 e2
        subst e1; subst e2
        obtain ⟨v', g1, g2⟩ := peek_sound hz hm hO hk hv
        exact ⟨p, w, .value v', p.le_refl, g1, hm, .inl ⟨v', rfl, g2⟩⟩
      · cases h
    · exact act_sound hz hm hO h
    · unfold freshStep at h
      split at h
      · rename_i x v hx
        injection h with h
        injection h with e1 e2
        subst e1; subst e2
        obtain ⟨k1, k2, k3, sz, ob, k4, k5⟩ := fresh_sound hz hO (hm.fresh _ (Nat.le_refl _)) hx
        obtain ⟨v', g1, g2⟩ := k5 w
        obtain ⟨m1, m2⟩ := hm.new k4 (fun b hb => by rw [k2] at hb; cases hb)
        rw [k1] at m1 m2
        exact ⟨_, _, .value v', m1, g2, m2, .inl ⟨v', rfl, g1⟩⟩
      · cases h

end Rn
end Go.Proofs.Ytapidabhdbjnmaa
