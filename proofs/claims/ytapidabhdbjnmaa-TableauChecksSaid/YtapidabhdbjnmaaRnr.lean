/- A run of a call that is handed no memory: operations one after the other. -/
import Derived.Test.YtapidabhdbjnmaaRnq
namespace Go.Proofs.Ytapidabhdbjnmaa
namespace Rn

variable {P : Program} {p : Pl} {c : Ctx} {s s' : St} {w : World}

theorem TR.putAt {tm tm' : Tm} {a : Array Value} (h : TR p tm a) {i : Nat} {v v' : Value} (hp : tm.putAt i v = some tm') (hv : VR p v v') : TR p tm' (a.setIfInBounds i v') := by
  obtain ⟨n, g, t⟩ := tm
  unfold Tm.putAt at hp
  simp only at hp
  cases hb : Nat.blt i n with
  | false => rw [hb] at hp; cases hp
  | true =>
    rw [hb, bi_true] at hp
    injection hp with hp
    subst hp
    have hi := blt hb
    have hsm : n ≤ 1000000 := h.small
    have him : i < most := by unfold most; omega
    refine ⟨by simpa using h.size, hsm, fun j hj => ?_, fun j hj => ?_, h.glob⟩
    · have hj : j < n := hj
      have hsz : a.size = n := h.size
      show VR p (orUndef ((T.set (some v) t i).get j)) _
      rw [T.get_set]
      by_cases hij : i = j
      · subst hij
        rw [if_pos ⟨rfl, him⟩]
        have : (a.setIfInBounds i v').getD i undef = v' := by
          rw [Array.getD_eq_getD_getElem?, Array.getElem?_setIfInBounds, if_pos rfl, if_pos (by omega)]; rfl
        rw [this]
        exact hv
      · rw [if_neg (fun e => hij e.1)]
        have : (a.setIfInBounds i v').getD j undef = a.getD j undef := by
          rw [Array.getD_eq_getD_getElem?, Array.getD_eq_getD_getElem?, Array.getElem?_setIfInBounds, if_neg hij]
        rw [this]
        exact h.get j hj
    · have hj : n ≤ j := hj
      show (T.set (some v) t i).get j = none
      rw [T.get_set, if_neg (fun e => by omega)]
      exact h.out j hj

theorem TR.put {tm tm' : Tm} {a : Act} (h : TR p tm a.tmps) {d : Option Tmp} {v v' : Value} (hp : tm.put d v = some tm') (hv : VR p v v') : TR p tm' (a.put d v').tmps := by
  cases d with
  | none =>
    injection hp with hp
    subst hp
    exact h
  | some i => exact h.putAt hp hv

theorem putAt_same {tm tm' : Tm} {i : Nat} {v : Value} (hp : tm.putAt i v = some tm') : tm'.n = tm.n ∧ tm'.g = tm.g := by
  obtain ⟨n, g, t⟩ := tm
  unfold Tm.putAt at hp
  simp only at hp
  cases hb : Nat.blt i n with
  | false => rw [hb] at hp; cases hp
  | true =>
    rw [hb, bi_true] at hp
    injection hp with hp
    subst hp
    exact ⟨rfl, rfl⟩
theorem put_same {tm tm' : Tm} {d : Option Tmp} {v : Value} (hp : tm.put d v = some tm') : tm'.n = tm.n ∧ tm'.g = tm.g := by
  cases d with
  | none => injection hp with hp; subst hp; exact ⟨rfl, rfl⟩
  | some i => exact putAt_same hp

/-- The fence of these runs. -/
def Fw (ro : Option Nat) : Fence := { Fence.wide with round := ro }
theorem Fw_round (ro : Option Nat) : (Fw ro).round = ro := rfl
theorem Fw_fn (ro : Option Nat) (f : FuncId) : (Fw ro).fn f := trivial
theorem Fw_depth (ro : Option Nat) (n : Nat) : (Fw ro).depth.isSome = true → 1 ≤ n := fun h => by cases h
theorem Fw_in (ro : Option Nat) (l : Nat) : (Fw ro).inRound l = Fw (some l) := rfl

/-- What a call comes to. -/
def Ret (c : Ctx) (p : Pl) (v : Value) (s' : St) : Ending → World → Prop := fun e w' => ∃ q v', e = .returned v' ∧ p.le q ∧ M c q s' w' ∧ VR q v v'

def CallOk (P : Program) (g : Nat) (call : CallF) : Prop := ∀ (c : Ctx) (p : Pl) (s : St) (w : World) (f : FuncId) (args : List Value) (args' : Array Value) (v : Value) (s' : St) (ro : Option Nat) (n : Nat),
  M c p s w → LR p args args'.toList → (∀ i, i < g → ∃ z, p i = some (i, z)) → call f args s = some (v, s') → CallsIn (Fw ro) n P f args' w (Ret c p v s')

def RoundOk (P : Program) (round : RoundF) : Prop := ∀ (c : Ctx) (p : Pl) (s : St) (w : World) (l : Nat) (l' : Nat) (args : List Value) (args' : Array Value) (v : Value) (s' : St) (ro : Option Nat) (n : Nat),
  M c p s w → NR p l l' → LR p args args'.toList → round l args s = some (v, s') →
    ∃ fn tmps assign body, (Instr.yield l' args').run P w = .ok (.round l' fn tmps assign body) w ∧ RoundIn (Fw ro) n P l' fn tmps assign body w (Ret c p v s')

theorem wanted_eq {tm : Tm} {a : Act} (h : TR p tm a.tmps) (ops : Array Oper) (o : Oper) : Region.wanted o (yielded ops a.tmps) = wantedA ops o tm := by
  unfold Region.wanted wantedA
  cases o.guard with
  | none => rfl
  | some x =>
    obtain ⟨j, want⟩ := x
    simp only
    unfold yielded
    cases hd : (ops[j]?).bind (·.dst) with
    | none => rfl
    | some t =>
      simp only [Option.bind_some]
      by_cases ht : t < tm.n
      · have hv := h.get t ht
        have hx : a.tmps[t]? = some (a.tmps.getD t undef) := by
          rw [Array.getD_eq_getD_getElem?, Array.getElem?_eq_getElem (by rw [h.size]; exact ht)]; rfl
        rw [hx]
        unfold Tm.get at hv
        cases hg : tm.t.get t with
        | none =>
          rw [hg] at hv
          have hv : VR p (.tuple #[]) (a.tmps.getD t undef) := hv
          obtain ⟨c', e, _⟩ := vr_tuple hv
          rw [e]; rfl
        | some y =>
          rw [hg] at hv
          have hv : VR p y (a.tmps.getD t undef) := hv
          cases y with
          | bool b => rw [vr_bool hv]; rfl
          | _ =>
            generalize a.tmps.getD t undef = z at hv ⊢
            cases z with
            | bool b => cases hv
            | _ => rfl
      · rw [h.out t (Nat.le_of_not_lt ht), Array.getElem?_eq_none (by rw [h.size]; exact Nat.le_of_not_lt ht)]
        rfl

/-- One operation of a region. -/
theorem doOp_sound (hz : Zeros P) {call : CallF} {round : RoundF} {tm : Tm} {a : Act} {ops : Array Oper} {o : Oper} {v : Value} {ro : Option Nat} {n i : Nat} (hcall : CallOk P tm.g call) (hround : RoundOk P round)
    (hm : M c p s w) (hT : TR p tm a.tmps) (hi : ops[i]? = some o) (h : doOp P call round ops o tm s = some (v, s')) {Q : Exit → Act → World → Prop} {Kk : Act → World → Prop}
    (hK : ∀ q w' v', p.le q → M c q s' w' → VR q v v' → Kk (a.put o.dst v') w') : wpOpIn (Fw ro) n P ops Q i Kk a w := by
  unfold wpOpIn
  simp only [hi]
  rw [wanted_eq hT]
  unfold doOp at h
  cases hw : wantedA ops o tm with
  | false =>
    rw [hw, bi_false] at h
    injection h with h
    injection h with e1 e2
    subst e1; subst e2
    simp only [Bool.false_eq_true, if_false]
    exact ⟨fun f _ => trivial, hK p w undef p.le_refl hm (.flat rfl)⟩
  | true =>
    rw [hw, bi_true] at h
    simp only [if_true]
    unfold goOn at h
    have hnd : ∀ nx s1, stepOp P o tm s = some (nx, s1) → ∀ cl, o.op ≠ .defer cl := fun nx s1 hst cl e => by
      unfold stepOp at hst
      cases hco : constsOk o.op with
      | false => rw [hco] at hst; cases hst
      | true =>
        rw [hco, bi_true, e] at hst
        have hst : peekStep P o tm s = some (nx, s1) := hst
        unfold peekStep peekOp at hst
        rw [e] at hst
        cases hst
    refine ⟨fun f _ => trivial, ?_⟩
    split at h
    · rename_i v0 s0 hst
      injection h with h
      injection h with e1 e2
      subst e1; subst e2
      obtain ⟨q, w', nx, g1, g2, g3, g4⟩ := step_sound hz hm hT hst
      rw [Oper.semAt_eq _ _ _ (hnd _ _ hst), g2]
      rcases g4 with ⟨v', rfl, g4⟩ | ⟨rfl, rfl⟩
      · exact hK q w' v' g1 g3 g4
      · exact hK q w' undef g1 g3 (.flat rfl)
    · rename_i f args s0 hst
      obtain ⟨args', g1, g2, g3⟩ := step_sound hz hm hT hst
      rw [Oper.semAt_eq _ _ _ (hnd _ _ hst), g1]
      refine ⟨Fw_depth ro n, (hcall c p s0 w f args args' v s' ro (n - 1) g3 g2 hT.glob h).mono fun e w' hR => ?_⟩
      obtain ⟨q, v', rfl, k1, k2, k3⟩ := hR
      exact hK q w' v' k1 k2 k3
    · rename_i l args s0 hst
      obtain ⟨l', args', g1, g2, g3, g4⟩ := step_sound hz hm hT hst
      obtain ⟨fn, tmps, assign, body, k1, k2⟩ := hround c p s0 w l l' args args' v s' ro (n - 1) g4 g2 g3 h
      rw [Oper.semAt_eq _ _ _ (hnd _ _ hst), g1, k1]
      refine ⟨Fw_depth ro n, k2.mono fun e w' hR => ?_⟩
      obtain ⟨q, v', rfl, k1, k2, k3⟩ := hR
      exact hK q w' v' k1 k2 k3
    · cases h

theorem runOps_cons (call : CallF) (round : RoundF) (ops : Array Oper) (o : Oper) (l : List Oper) (tm : Tm) (s : St) :
    runOps P call round ops (o :: l) tm s = putNext o.dst tm (runOps P call round ops l) (doOp P call round ops o tm s) := rfl

theorem runOps_sound (hz : Zeros P) {call : CallF} {round : RoundF} {ops : Array Oper} {ro : Option Nat} {n : Nat} {Q : Exit → Act → World → Prop} {g : Nat} (hcall : CallOk P g call) (hround : RoundOk P round) :
    ∀ (l : List Oper) (k : Nat) (tm tm' : Tm) (s s' : St) (a : Act) (w : World) (p : Pl), (∀ j, l[j]? = ops[k + j]?) → tm.g = g → M c p s w → TR p tm a.tmps → runOps P call round ops l tm s = some (tm', s') →
      (∀ q w' a', p.le q → M c q s' w' → TR q tm' a'.tmps → a'.defers = a.defers → Q .normal a' w') → wpOpsIn (Fw ro) n P ops Q (List.range' k l.length) a w
  | [], k, tm, tm', s, s', a, w, p, hl, hg, hm, hT, h, hQ => by
    injection h with h
    injection h with e1 e2
    subst e1; subst e2
    exact hQ p w a p.le_refl hm hT rfl
  | o :: l, k, tm, tm', s, s', a, w, p, hl, hg, hm, hT, h, hQ => by
    rw [runOps_cons] at h
    unfold putNext at h
    split at h
    · cases h
    · rename_i v s1 hd
      split at h
      · cases h
      · rename_i tm1 ht
        have hi : ops[k]? = some o := by have := hl 0; simpa using this.symm
        simp only [List.length_cons, List.range'_succ]
        rw [wpOpsIn_cons]
        refine doOp_sound hz (hg ▸ hcall) hround hm hT hi hd fun q w' v' hq hm' hv => ?_
        refine runOps_sound hz hcall hround l (k + 1) tm1 tm' s1 s' _ w' q (fun j => ?_) ((put_same ht).2.trans hg) hm' ((hT.le hq).put ht hv) h fun q2 w2 a2 h1 h2 h3 h4 => ?_
        · have := hl (j + 1)
          rw [show k + 1 + j = k + (j + 1) by omega]
          simpa using this
        · refine hQ q2 w2 a2 (Pl.le_trans hq h1) h2 h3 (h4.trans ?_)
          cases o.dst <;> rfl

end Rn
end Go.Proofs.Ytapidabhdbjnmaa
