/- A run of a call that is handed no memory: code of any kind. -/
import Derived.Test.YtapidabhdbjnmaaRnt
import Derived.LoopNIn
namespace Go.Proofs.Ytapidabhdbjnmaa
namespace Rn

variable {P : Program} {p : Pl} {c : Ctx} {s s' : St} {w : World}

section
variable {b : Frame} {a : Act} {k : List Item} {cs : List Frame} {Q : Exit → Act → World → Prop} {F : Fence} {n : Nat}

/-- As it is left otherwise than by a goto. -/
def NoGo (Q : Exit → Act → World → Prop) : Exit → Act → World → Prop
  | .goto _, _, _ => False
  | e, a, w => Q e a w

theorem stepR_scope {x : Code} : step P (lone (b.atR a (.code (.scope x) :: k)) cs w) = .next (lone (b.atR a (.code x :: .inScope x :: k)) cs w) :=
  step_lone_go (by simp [stepG, stepG.exec, Frame.atR])
theorem stepR_inScope {x : Code} : step P (lone (b.atR a (.inScope x :: k)) cs w) = .next (lone (b.atR a k) cs w) :=
  step_lone_go (by simp [stepG, stepG.exec, Frame.atR])

theorem wpIn_scope_straight {x : Code} (h : x.wpIn F n P (NoGo Q) a w) : (Code.scope x).wpIn F n P Q a w := by
  intro b k cs hro hb hr
  have h0 : (lone (b.atR a (.code (.scope x) :: k)) cs w).fenced P F := fenced_calm hb hr rfl
  obtain ⟨e, a₁, w₁, hq, harr⟩ := h b (.inScope x :: k) cs hro hb hr
  cases e with
  | normal => exact ⟨.normal, a₁, w₁, hq, .head h0 stepR_scope (StepsIn.trans harr (.one (fenced_calm hb hr rfl) stepR_inScope))⟩
  | exit id =>
    have hx : exitTo id (.inScope x :: k) = exitTo id k := by simp [exitTo]
    exact ⟨.exit id, a₁, w₁, hq, fun k' hk => .head h0 stepR_scope (harr.1 k' (by rw [hx]; exact hk)),
      fun hr' hk => let ⟨k₁, h1, h2⟩ := harr.2 hr' (by rw [hx]; exact hk); ⟨k₁, h1, .head h0 stepR_scope h2⟩⟩
  | goto l => exact hq.elim
  | ret => exact ⟨_, a₁, w₁, hq, .of_steps (.one h0 stepR_scope) harr⟩
  | panic ch => exact ⟨_, a₁, w₁, hq, .of_steps (.one h0 stepR_scope) harr⟩
  | outgrown => exact ⟨_, a₁, w₁, hq, .of_steps (.one h0 stepR_scope) harr⟩
end

theorem andThen_some {r : Option Out} {k : Tm → St → Option Out} {out : Out} (h : andThen r k = some out) :
    (∃ tm1 ds1 s1 o2, r = some ⟨.normal, tm1, ds1, s1⟩ ∧ k tm1 s1 = some o2 ∧ out = ⟨o2.e, o2.tm, o2.ds ++ ds1, o2.st⟩) ∨ (r = some out ∧ out.e ≠ .normal) := by
  unfold andThen at h
  split at h
  · rename_i tm1 ds1 s1
    split at h
    · rename_i e tm2 ds2 s2 h2
      injection h with h
      exact .inl ⟨tm1, ds1, s1, _, rfl, h2, h.symm⟩
    · cases h
  · rename_i hno
    refine .inr ⟨h, fun e => ?_⟩
    obtain ⟨e0, tm0, ds0, s0⟩ := out
    simp only at e
    subst e
    exact hno _ _ _ h

theorem exBlock_some {id : Nat} {r : Option Out} {out : Out} (h : exBlock id r = some out) :
    ∃ o1, r = some o1 ∧ out.tm = o1.tm ∧ out.ds = o1.ds ∧ out.st = o1.st ∧ ∀ (Q : Exit → Act → World → Prop) a w, Q (exitOf out.e) a w → Exit.inBlock id Q (exitOf o1.e) a w := by
  unfold exBlock at h
  split at h
  · rename_i i tm1 ds1 s1
    cases hb : Nat.beq i id with
    | true =>
      rw [hb, cond_true] at h
      injection h with h
      subst h
      have hi := Nat.eq_of_beq_eq_true hb
      refine ⟨_, rfl, rfl, rfl, rfl, fun Q a w hq => ?_⟩
      show Exit.inBlock id Q (.exit i) a w
      simp only [Exit.inBlock, hi, if_true]
      exact hq
    | false =>
      rw [hb, cond_false] at h
      injection h with h
      subst h
      have hi := Nat.ne_of_beq_eq_false hb
      refine ⟨_, rfl, rfl, rfl, rfl, fun Q a w hq => ?_⟩
      show Exit.inBlock id Q (.exit i) a w
      simp only [Exit.inBlock, hi, if_false]
      exact hq
  · rename_i hno
    refine ⟨out, h, rfl, rfl, rfl, fun Q a w hq => ?_⟩
    obtain ⟨e0, tm0, ds0, s0⟩ := out
    cases e0 with
    | normal => exact hq
    | ret => exact hq
    | exit i => exact (hno _ _ _ _ h).elim

theorem then_ok {ex : ExF} (hex : ExOk P ex) {K : Act → World → Prop} {x : Code} {k : Tm → St → Option Out} {ro ro' : Option Nat} {tm : Tm} {a : Act} {out : Out} {n : Nat} {Q : Exit → Act → World → Prop}
    (hm : M c p s w) (hT : TR p tm a.tmps) (hro : RoR p ro ro') (h : andThen (ex ro x tm s) k = some out) (hQ : Goes c p a tm out Q)
    (hk : ∀ q w1 a1 tm1 s1 o2, p.le q → M c q s1 w1 → TR q tm1 a1.tmps → k tm1 s1 = some o2 → Goes c q a1 tm1 o2 Q → K a1 w1) : x.wpIn (Fw ro') n P (Exit.then K Q) a w := by
  rcases andThen_some h with ⟨tm1, ds1, s1, o2, h1, h2, rfl⟩ | ⟨h1, hne⟩
  · refine hex c p s w ro ro' x tm a _ n _ hm hT hro h1 fun q w1 a1 ds1' hq hm1 hT1 hg1 hd1 hdef1 => ?_
    refine hk q w1 a1 tm1 s1 o2 hq hm1 hT1 h2 fun q2 w2 a2 ds2' hq2 hm2 hT2 hg2 hd2 hdef2 => ?_
    exact hQ q2 w2 a2 (ds2' ++ ds1') (Pl.le_trans hq hq2) hm2 hT2 (hg2.trans hg1) (DsR.append hd2 (hd1.le hq2)) (by rw [hdef2, hdef1, List.append_assoc])
  · refine hex c p s w ro ro' x tm a out n _ hm hT hro h1 fun q w1 a1 ds1' hq hm1 hT1 hg1 hd1 hdef1 => ?_
    have := hQ q w1 a1 ds1' hq hm1 hT1 hg1 hd1 hdef1
    cases he : out.e with
    | normal => exact (hne he).elim
    | ret => rw [he] at this; exact this
    | exit id => rw [he] at this; exact this

def DrawOk (P : Program) (orc : Orc) : Prop := ∀ (ex : ExF), ExOk P ex → ∀ (c : Ctx) (p : Pl) (s : St) (w : World) (ro' : Option Nat) (ops : Array Oper) (tm tm' : Tm) (s' : St) (a : Act) (n id : Nat) (Q : Exit → Act → World → Prop),
  M c p s w → TR p tm a.tmps → drawRegion P (callF P orc tm.g ex) (roundF ex) ops tm s = some (tm', s') →
    (∀ q w' a', p.le q → M c q s' w' → TR q tm' a'.tmps → tm'.g = tm.g → a'.defers = a.defers → Q .normal a' w') → (Code.region id ops true).wpIn (Fw ro') n P Q a w

theorem runOps_g {call : CallF} {round : RoundF} {ops : Array Oper} : ∀ (l : List Oper) (tm tm' : Tm) (s s' : St), runOps P call round ops l tm s = some (tm', s') → tm'.g = tm.g
  | [], tm, tm', s, s', h => by
    injection h with h
    injection h with e1 e2
    rw [e1]
  | o :: l, tm, tm', s, s', h => by
    rw [runOps_cons] at h
    unfold putNext at h
    split at h
    · cases h
    · split at h
      · cases h
      · rename_i tm1 ht
        exact (runOps_g l _ _ _ _ h).trans (put_same ht).2

theorem eval_bool {tm : Tm} {a : Act} (hT : TR p tm a.tmps) {x : Operand} {b : Bool} (h : tm.eval x = .bool b) : a.eval x = .bool b := by
  cases x with
  | const v => exact h
  | tmp i =>
    have := vr_eval hT (x := .tmp i) rfl
    rw [h] at this
    exact vr_bool this
  | global g =>
    have := vr_eval hT (x := .global g) rfl
    rw [h] at this
    exact vr_bool this
  | func f => cases h

/-! ### A range over a function -/

theorem enter_ok (hm : M c p s w) {ro ro' : Option Nat} (hro : RoR p ro ro') {D : Nat} {mark : List Nat} {s1 : St} (h : enterA ro s = some (D, mark, s1)) :
    ∃ q D' mark' w1, p.le q ∧ M c q s1 w1 ∧ (∃ sz es, q D = some (D', sz, es)) ∧ DsR q mark mark' ∧
      ∀ (fn : FuncId) (tmps : Array Value) (ps : Array Tmp) (assign body : Code), (Instr.enterLoop fn tmps ps assign body ro').run P w =
        .ok (w1.heap.size, mark') { w1 with heap := w1.heap.push (.loop { state := .ready, pending := none, fn, tmps, params := ps, assign, body, defers := D' }) } := by
  unfold enterA at h
  cases ro with
  | none =>
    cases ro' with
    | some _ => exact hro.elim
    | none =>
      simp only at h
      injection h with h
      injection h with e1 h
      injection h with e2 e3
      subst e1; subst e2; subst e3
      obtain ⟨hle, hm1⟩ := hm.new (x := .deferred) (sz := 0) (o := .deferred (some [])) .deferred (fun b hb => by cases hb)
      have hp : (p.add s.next w.heap.size 0 (Blk.deferred).es) s.next = some (w.heap.size, 0, (Blk.deferred).es) := if_pos rfl
      refine ⟨_, w.heap.size, [{ target := .collected w.heap.size, args := #[] }], { w with heap := w.heap.push (.deferred (some [])) }, hle, hm1, ⟨_, _, hp⟩, ⟨⟨_, _, _, hp, rfl⟩, trivial⟩, fun fn tmps ps assign body => ?_⟩
      simp [Instr.enterLoop, newObj, Sem.run]
  | some l =>
    cases ro' with
    | none => exact hro.elim
    | some l' =>
      simp only at h
      split at h
      · rename_i r hg
        injection h with h
        injection h with e1 h
        injection h with e2 e3
        subst e1; subst e2; subst e3
        obtain ⟨m, hw, hlp⟩ := get_loop hm hro hg
        refine ⟨p, m.defers, [], w, p.le_refl, hm, hlp.defers, trivial, fun fn tmps ps assign body => ?_⟩
        have := run_getLoop (P := P) hw
        simp [Instr.enterLoop, newObj, Sem.run_bind, this, Result.andThen, Sem.run]
      · cases h

theorem range_ok (hz : Zeros P) {orc : Orc} (ho : OrcOk P orc) {ex : ExF} (hex : ExOk P ex) (hm : M c p s w) {ro ro' : Option Nat} {tm : Tm} {a : Act} {out : Out} {n : Nat} {Q : Exit → Act → World → Prop}
    (hT : TR p tm a.tmps) (hro : RoR p ro ro') {g : Operand} {ps : Array Tmp} {assign body : Code} (hcg : constOk g = true) (h : exRange P orc ex ro g ps assign body tm s = some out) (hQ : Goes c p a tm out Q) :
    (Code.rangeFunc g ps assign body).wpIn (Fw ro') n P Q a w := by
  unfold exRange at h
  split at h
  · rename_i D mark s1 hent
    obtain ⟨q, D', mark', w1, hq, hm1, hD, hmark, henter⟩ := enter_ok hm hro hent
    unfold rangeBody at h
    simp only at h
    split at h
    · rename_i gf first captured hev
      split at h
      · rename_i f args s3 hcal
        obtain ⟨fn', k1, k2, k3, k4, k5⟩ := callee_ok hcal
        injection k4 with k4 k6
        subst k4; subst k5; subst k6
        have hT1 := hT.le hq
        have hvg := vr_eval hT1 (a := a) hcg
        rw [hev] at hvg
        obtain ⟨f', a', c', e', hfr, h1, h2⟩ := vr_func hvg
        cases hfr with
        | same _ =>
          refine wpIn_rangeFunc fun fn hfn => ?_
          have hbr : BR q (.loop { state := .ready, pending := none, tm, params := ps.toList, assign, body, defers := D }) 0 (.loop { state := .ready, pending := none, fn, tmps := a.tmps, params := ps, assign, body, defers := D' }) :=
            .loop ⟨rfl, rfl, hT1, rfl, rfl, rfl, hD⟩
          obtain ⟨hle2, hm2⟩ := hm1.new hbr (fun b hb => by cases hb)
          generalize hq2 : q.add s1.next w1.heap.size 0 _ = q2 at hle2 hm2
          have hpl : ∃ sz es, q2 s1.next = some (w1.heap.size, sz, es) := by rw [← hq2]; exact ⟨_, _, if_pos rfl⟩
          have hqq := Pl.le_trans hq hle2
          generalize hw2 : ({ w1 with heap := w1.heap.push _ } : World) = w2 at hm2
          have hargs : LR q2 (first.toList ++ [Value.func (.yield s1.next) #[] #[]] ++ captured.toList) (a' ++ #[Value.func (.yield w1.heap.size) #[] #[]] ++ c').toList := by
            rw [Array.toList_append, Array.toList_append]
            obtain ⟨sz, es, hpl⟩ := hpl
            refine ((h1.le hle2).append (.cons (.func (.yield hpl) rfl rfl ?_ ?_) (.nil _))).append (h2.le hle2) <;> · intro i v v' hv; simp at hv
          have hcall := call_ok hz ho hex tm.g
          refine ⟨w1.heap.size, mark', w2, { target := .fn (.func f) c', args := a' ++ #[Value.func (.yield w1.heap.size) #[] #[]] }, w2, f, a' ++ #[Value.func (.yield w1.heap.size) #[] #[]] ++ c', w2, ?_, ?_, fun _ _ => trivial, ?_, Fw_depth ro' n, ?_⟩
          · rw [← hw2]; exact henter fn a.tmps ps assign body
          · have hmap : (#[Operand.const (Value.func (.yield w1.heap.size) #[] #[])] : Array Operand).map a.eval = #[Value.func (.yield w1.heap.size) #[] #[]] := by
              simp [Act.eval]
            simp only [resolve, rangeCall, e', Deferred.ofValue, hmap]
            rfl
          · exact run_callFunc k1 k2 k3 w2
          · unfold rangeEnd at h
            split at h
            · rename_i v4 s4 hc4
              refine (hcall c q2 _ w2 f _ _ v4 s4 ro' (n - 1) hm2 hargs (hT1.le hle2).glob hc4).mono fun e w3 hR => ?_
              obtain ⟨q3, v', rfl, hq3, hm3, hv3⟩ := hR
              split at h
              · rename_i r hg
                obtain ⟨sz, es, hpl⟩ := hpl
                have hnr : NR q3 s1.next w1.heap.size := ⟨_, _, hq3 _ _ hpl⟩
                obtain ⟨m, hw3, hlp⟩ := get_loop hm3 hnr hg
                have hset := set_loop hm3 hnr hg (lp_to hlp .exhausted r.pending)
                have hp3 := Pl.le_trans hqq hq3
                have hrun : ∀ pe, m.pending = pe → m.state ≠ .busy → (Instr.endLoop w1.heap.size).run P w3 = .ok pe { w3 with heap := w3.heap.setIfInBounds w1.heap.size (.loop { m with state := .exhausted, pending := pe }) } := fun pe hpe hnb => by
                  subst hpe
                  show ((Instr.getLoop w1.heap.size).bind _).run P w3 = _
                  rw [run_bind_ok _ _ (run_getLoop hw3)]
                  have hbb : (m.state == LoopState.busy) = false := by
                    cases hms : m.state <;> first | rfl | exact (hnb hms).elim
                  rw [hbb]
                  show ((Go.setObj w1.heap.size _).bind _).run P w3 = _
                  rw [run_bind_ok _ _ (run_setObj hw3 _)]
                  rfl
                split at h
                · cases h
                · rename_i hnb
                  have hnb' : m.state ≠ .busy := by rw [hlp.state]; exact hnb
                  cases hpe : r.pending with
                  | none =>
                    rw [hpe] at h hset
                    injection h with h
                    subst h
                    refine ⟨none, _, hrun none (hlp.pending.trans hpe) hnb', ?_⟩
                    exact hQ q3 _ { a with defers := mark' ++ a.defers } mark' hp3 hset (hT.le hp3) rfl (hmark.le (Pl.le_trans hle2 hq3)) rfl
                  | some cc =>
                    rw [hpe] at h hset
                    unfold addDs at h
                    simp only at h
                    split at h
                    · rename_i e6 tm6 ds6 s6 h6
                      injection h with h
                      subst h
                      refine ⟨some cc, _, hrun (some cc) (hlp.pending.trans hpe) hnb', ?_⟩
                      refine hex c q3 _ _ ro ro' cc tm { a with defers := mark' ++ a.defers } _ n Q hset (hT.le hp3) (hro.le hp3) h6 fun q6 w6 a6 ds6' hq6 hm6 hT6 hg6 hd6 hdef6 => ?_
                      exact hQ q6 w6 a6 (ds6' ++ mark') (Pl.le_trans hp3 hq6) hm6 hT6 hg6 (DsR.append hd6 (hmark.le (Pl.le_trans (Pl.le_trans hle2 hq3) hq6))) (by rw [hdef6, List.append_assoc])
                    · cases h
              · cases h
            · cases h
      · cases h
    · cases h
  · cases h

/-! ### All code -/

def LoopOk (P : Program) (f : Nat) (ex : ExF) : Prop := ∀ (c : Ctx) (p : Pl) (s : St) (w : World) (ro ro' : Option Nat) (code : Code) (tm : Tm) (a : Act) (out : Out) (n : Nat) (Q : Exit → Act → World → Prop),
  M c p s w → TR p tm a.tmps → RoR p ro ro' → ex ro (.loop code) tm s = some out → Goes c p a tm out Q → Code.roundsIn (Fw ro') n P code Q f a w

theorem Goes.noGoto {a : Act} {tm : Tm} {out : Out} {Q : Exit → Act → World → Prop} (h : Goes c p a tm out Q) : Goes c p a tm out (NoGo Q) := fun q w' a' ds' h1 h2 h3 h4 h5 h6 => by
  have := h q w' a' ds' h1 h2 h3 h4 h5 h6
  cases he : out.e <;> (rw [he] at this; exact this)

theorem exec_succ (orc : Orc) (f : Nat) : exec P orc (f + 1) = execStep P orc (exec P orc f) := rfl

theorem exec_ok (hz : Zeros P) {orc : Orc} (ho : OrcOk P orc) (hd : DrawOk P orc) : ∀ f, ExOk P (exec P orc f) ∧ LoopOk P f (exec P orc f)
  | 0 => ⟨fun c p s w ro ro' code tm a out n Q hm hT hro h hQ => (by cases h), fun c p s w ro ro' code tm a out n Q hm hT hro h hQ => (by cases h)⟩
  | f + 1 => by
    obtain ⟨hex, hlo⟩ := exec_ok hz ho hd f
    have hloop : LoopOk P (f + 1) (exec P orc (f + 1)) := fun c p s w ro ro' code tm a out n Q hm hT hro h hQ => by
      have h : andThen (exec P orc f ro code tm s) (exec P orc f ro (.loop code)) = some out := h
      rw [roundsIn_succ]
      exact then_ok hex hm hT hro h hQ fun q w1 a1 tm1 s1 o2 hq hm1 hT1 h2 hQ2 => hlo c q s1 w1 ro ro' code tm1 a1 o2 n Q hm1 hT1 (hro.le hq) h2 hQ2
    refine ⟨fun c p s w ro ro' code tm a out n Q hm hT hro h hQ => ?_, hloop⟩
    have hnone : ∀ e, some (⟨e, tm, [], s⟩ : Out) = some out → Q (exitOf e) a w := fun e he => by
      injection he with he
      subst he
      exact hQ p w a [] p.le_refl hm hT rfl trivial rfl
    cases code with
    | skip => exact wpIn_skip (hnone .normal h)
    | label l => exact wpIn_label (hnone .normal h)
    | exit id => exact wpIn_exit (hnone (.exit id) h)
    | ret => exact wpIn_ret (hnone .ret h)
    | seq x y =>
      have h : andThen (exec P orc f ro x tm s) (exec P orc f ro y) = some out := h
      refine wpIn_seq ?_
      exact then_ok hex hm hT hro h hQ fun q w1 a1 tm1 s1 o2 hq hm1 hT1 h2 hQ2 => hex c q s1 w1 ro ro' y tm1 a1 o2 n Q hm1 hT1 (hro.le hq) h2 hQ2
    | cond x y z =>
      have h : exCond (exec P orc f) ro (tm.eval x) y z tm s = some out := h
      unfold exCond at h
      split at h
      · rename_i b hb
        refine wpIn_cond (eval_bool hT hb) ?_
        cases b with
        | true => exact hex c p s w ro ro' y tm a out n Q hm hT hro h hQ
        | false => exact hex c p s w ro ro' z tm a out n Q hm hT hro h hQ
      · cases h
    | block id x =>
      have h : exBlock id (exec P orc f ro x tm s) = some out := h
      obtain ⟨o1, h1, e1, e2, e3, hin⟩ := exBlock_some h
      refine wpIn_block (hex c p s w ro ro' x tm a o1 n _ hm hT hro h1 fun q w1 a1 ds1 hq hm1 hT1 hg1 hd1 hdef1 => ?_)
      exact hin Q a1 w1 (hQ q w1 a1 ds1 hq (e3 ▸ hm1) (e1 ▸ hT1) (by rw [e1]; exact hg1) (by rw [e2]; exact hd1) hdef1)
    | loop x => exact wpIn_loop_rounds (f + 1) (hloop c p s w ro ro' x tm a out n Q hm hT hro h hQ)
    | scope x =>
      have h : exec P orc f ro x tm s = some out := h
      exact wpIn_scope_straight (hex c p s w ro ro' x tm a out n _ hm hT hro h hQ.noGoto)
    | region id ops dr =>
      cases dr with
      | false =>
        have h : exRegion (runOps P (callF P orc tm.g (exec P orc f)) (roundF (exec P orc f)) ops ops.toList tm s) = some out := h
        unfold exRegion at h
        split at h
        · rename_i tm1 s1 h1
          injection h with h
          subst h
          refine wpIn_region ?_
          rw [List.range_eq_range', ← Array.length_toList]
          refine runOps_sound hz (call_ok hz ho hex tm.g) (round_ok hex) ops.toList 0 tm tm1 s s1 a w p (fun j => by simp) rfl hm hT h1 fun q w1 a1 hq hm1 hT1 hdef1 => ?_
          exact hQ q w1 a1 [] hq hm1 hT1 (runOps_g _ _ _ _ _ h1) trivial hdef1
        · cases h
      | true =>
        have h : exRegion (drawRegion P (callF P orc tm.g (exec P orc f)) (roundF (exec P orc f)) ops tm s) = some out := h
        unfold exRegion at h
        split at h
        · rename_i tm1 s1 h1
          injection h with h
          subst h
          exact hd _ hex c p s w ro' ops tm tm1 s1 a n id Q hm hT h1 fun q w1 a1 hq hm1 hT1 hg1 hdef1 => hQ q w1 a1 [] hq hm1 hT1 hg1 trivial hdef1
        · cases h
    | rangeFunc g ps assign body =>
      have h : bi (constOk g) (exRange P orc (exec P orc f) ro g ps assign body tm s) none = some out := h
      cases hcg : constOk g with
      | false => rw [hcg] at h; cases h
      | true =>
        rw [hcg, bi_true] at h
        exact range_ok hz ho hex hm hT hro hcg h hQ
    | _ => cases h

end Rn
end Go.Proofs.Ytapidabhdbjnmaa
