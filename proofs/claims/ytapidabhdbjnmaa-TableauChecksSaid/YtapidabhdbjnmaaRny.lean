/- A run of a call that is handed no memory: operations whose order is drawn: any order comes to the same. -/
import Derived.Test.YtapidabhdbjnmaaRnx
namespace Go.Proofs.Ytapidabhdbjnmaa
namespace Rn

variable {P : Program} {p : Pl} {c : Ctx} {s s' : St} {w : World}

theorem wanted_of {tm : Tm} {a : Act} {ops : Array Oper} {o : Oper} (hsz : a.tmps.size = tm.n) (hout : ∀ i, tm.n ≤ i → tm.t.get i = none) (hT : ∀ t, t ∈ o.looksAt ops → VR p (tm.get t) (a.tmps.getD t undef)) :
    Region.wanted o (yielded ops a.tmps) = wantedA ops o tm := by
  unfold Region.wanted wantedA
  cases hg : o.guard with
  | none => rfl
  | some x =>
    obtain ⟨j, want⟩ := x
    simp only
    unfold yielded
    cases hd : (ops[j]?).bind (·.dst) with
    | none => rfl
    | some t =>
      simp only [Option.bind_some]
      by_cases ht : t < tm.n
      · have hv := hT t (by unfold Oper.looksAt; rw [hg]; simp [hd])
        have hx : a.tmps[t]? = some (a.tmps.getD t undef) := by
          rw [Array.getD_eq_getD_getElem?, Array.getElem?_eq_getElem (by rw [hsz]; exact ht)]; rfl
        rw [hx]
        unfold Tm.get at hv
        cases hg : tm.t.get t with
        | none =>
          rw [hg] at hv
          have hv : VR p (.tuple #[]) (a.tmps.getD t undef) := hv
          obtain ⟨c', e, _⟩ := vr_tuple hv
          rw [e]; rfl
        | some y =>
          rw [hg] at hv
          have hv : VR p y (a.tmps.getD t undef) := hv
          cases y with
          | bool b => rw [vr_bool hv]; rfl
          | _ =>
            generalize a.tmps.getD t undef = z at hv ⊢
            cases z with
            | bool b => cases hv
            | _ => rfl
      · rw [hout t (Nat.le_of_not_lt ht), Array.getElem?_eq_none (by rw [hsz]; exact Nat.le_of_not_lt ht)]
        rfl

theorem opR_of {tm : Tm} {a : Act} {ops : Array Oper} {o : Oper} (hT : ∀ t, t ∈ o.looksAt ops → VR p (tm.get t) (a.tmps.getD t undef)) (hgl : ∀ g, g < tm.g → ∃ z, p g = some (g, z)) (hco : constsOk o.op = true) : OpR p tm a o.op :=
  ⟨fun x hx => by
    unfold constsOk at hco
    rw [List.all_eq_true] at hco
    have hc := hco x (by simpa using hx)
    cases x with
    | tmp i => exact hT i (List.mem_append_left _ (List.mem_filterMap.2 ⟨.tmp i, by simpa using hx, rfl⟩))
    | const v => exact .flat hc
    | global g =>
      show VR p (bi (Nat.blt g tm.g) (.pointer (some ⟨g, 0, none⟩)) poison) (.pointer (some ⟨g, 0, none⟩))
      cases hg : Nat.blt g tm.g with
      | false => exact .any
      | true => obtain ⟨⟨sz, es⟩, hz⟩ := hgl g (blt hg); exact .ptr (.mk hz)
    | func f => exact .flat rfl⟩

/-- An operation that writes, or calls. -/
theorem op_act (hz : Zeros P) {call : CallF} {round : RoundF} {tm : Tm} {a : Act} {ops : Array Oper} {o : Oper} {v : Value} {ro : Option Nat} {n : Nat} (hcall : CallOk P tm.g call) (hround : RoundOk P round)
    (hm : M c p s w) (hO : OpR p tm a o.op) (hgl : ∀ g, g < tm.g → ∃ z, p g = some (g, z)) (hw : wantedA ops o tm = true) (hco : constsOk o.op = true) (hk : kind P o.op = 1) (h : doOp P call round ops o tm s = some (v, s'))
    {Q : Exit → Act → World → Prop} {Kk : Act → World → Prop} (hK : ∀ q w' v', p.le q → M c q s' w' → VR q v v' → Kk (a.put o.dst v') w') : o.wpIn (Fw ro) n P a w Kk Q := by
  unfold doOp at h
  rw [hw, bi_true] at h
  unfold stepOp at h
  rw [hco, bi_true, hk] at h
  have h : goOn call round (actOp P o tm s) = some (v, s') := h
  have hnd : ∀ nx s1, actOp P o tm s = some (nx, s1) → ∀ cl, o.op ≠ .defer cl := fun nx s1 hst cl e => by
    unfold actOp at hst
    rw [e] at hst
    cases hst
  unfold goOn at h
  refine ⟨fun f _ => trivial, ?_⟩
  split at h
  · rename_i v0 s0 hst
    injection h with h
    injection h with e1 e2
    subst e1; subst e2
    obtain ⟨q, w', nx, g1, g2, g3, g4⟩ := act_sound hz hm hO hst
    rw [Oper.semAt_eq _ _ _ (hnd _ _ hst), g2]
    rcases g4 with ⟨v', rfl, g4⟩ | ⟨rfl, rfl⟩
    · exact hK q w' v' g1 g3 g4
    · exact hK q w' undef g1 g3 (.flat rfl)
  · rename_i f args s0 hst
    obtain ⟨args', g1, g2, g3⟩ := act_sound hz hm hO hst
    rw [Oper.semAt_eq _ _ _ (hnd _ _ hst), g1]
    refine ⟨Fw_depth ro n, (hcall c p s0 w f args args' v s' ro (n - 1) g3 g2 hgl h).mono fun e w' hR => ?_⟩
    obtain ⟨q, v', rfl, k1, k2, k3⟩ := hR
    exact hK q w' v' k1 k2 k3
  · rename_i l args s0 hst
    obtain ⟨l', args', g1, g2, g3, g4⟩ := act_sound hz hm hO hst
    obtain ⟨fn, tmps, assign, body, k1, k2⟩ := hround c p s0 w l l' args args' v s' ro (n - 1) g4 g2 g3 h
    rw [Oper.semAt_eq _ _ _ (hnd _ _ hst), g1, k1]
    refine ⟨Fw_depth ro n, k2.mono fun e w' hR => ?_⟩
    obtain ⟨q, v', rfl, k1, k2, k3⟩ := hR
    exact hK q w' v' k1 k2 k3
  · cases h

def Ub (b : Array Nat) (es : List Ent) (L : Nat → Bool) (id : Nat) (x : Blk) : Prop := ∃ f ∈ es, f.r = .fresh id x ∧ L f.i = true ∧ ∀ y ∈ es, (actSt y.r).isSome = true → L y.i = true → waits b y.i f.i = false
def Vb (b : Array Nat) (es : List Ent) (L : Nat → Bool) (id : Nat) : Prop := ∃ f ∈ es, ∃ x, f.r = .fresh id x ∧ ∀ y ∈ es, (actSt y.r).isSome = true → L y.i = true → waits b y.i f.i = false

/-- Some have been carried out. -/
structure Inv (b : Array Nat) (ops : Array Oper) (tm0 : Tm) (s0 : St) (es : List Ent) (c : Ctx) (p0 : Pl) (ds : List Deferred) (L : Nat → Bool) (a : Act) (w : World) (p : Pl) (pl : Nat → Nat) : Prop where
  dn : Dn b ops L
  le : p0.le p
  m : M c p (stL s0 L es) w
  los : Los c p (stL s0 L es) w (Ub b es L) pl
  vs : Vs (stL s0 L es) (Vb b es L)
  non : ∀ f ∈ es, ∀ id x, f.r = .fresh id x → L f.i = false → p id = none
  size : a.tmps.size = tm0.n
  val : ∀ t, t < tm0.n → VR p (valL tm0 L es t) (a.tmps.getD t undef)
  defs : a.defers = ds

def Same (P : Program) (b : Array Nat) (s0 : St) (es : List Ent) : Prop := ∀ e ∈ es, ∀ k0, e.r = .peek k0 → ∀ k s1, lowOf b (wsOf es) e.i ≤ k → k ≤ highOf b (wsOf es) e.i → nth (hsOf s0 es).reverse k = some s1 → peekOp P e.o e.tm s1 = some e.v

section
variable {call : CallF} {round : RoundF} {ops : Array Oper} {b : Array Nat} {base : Nat} {tm0 : Tm} {s0 : St} {es : List Ent} {tmF : Tm} {sF : St} {psF : List Pend} {L L' : Nat → Bool} {p0 : Pl} {ds : List Deferred} {pl : Nat → Nat}

theorem any_step (hz : Zeros P) (hcall : CallOk P tm0.g call) (hround : RoundOk P round) (hch : Ch P call round ops b base tm0 s0 es tmF sF psF) (hlen : es.length = ops.size) (ho : Ord b ops) (hn : tm0.n ≤ 1000000)
    (hout : ∀ i, tm0.n ≤ i → tm0.t.get i = none) (hsame : Same P b s0 es) (hgl : ∀ g, g < tm0.g → ∃ z, p0 g = some (g, z)) (hok : ∀ id, base ≤ id → c.ok id) (hng : c.nG ≤ base) (hN : c.N ≤ base) {a : Act} (inv : Inv b ops tm0 s0 es c p0 ds L a w p pl)
    {i : Nat} {o : Oper} (hi : ops[i]? = some o) (hLi : L i = false) (hw : ∀ k, k < ops.size → waits b i k = true → L k = true) (h1 : L' i = true) (h2 : ∀ k, k ≠ i → L' k = L k) {ro : Option Nat} {n : Nat} {Q : Exit → Act → World → Prop} {K : Act → World → Prop}
    (hK : ∀ a w p pl, Inv b ops tm0 s0 es c p0 ds L' a w p pl → K a w) : wpOpIn (Fw ro) n P ops Q i K a w := by
  have hin := lt_of_ops hi
  obtain ⟨B, e, A, tm1, s1, ps1, s2, ps2, hes, hei, hAl, hchA, htm, hoe, hstp, hB⟩ := hch.at (i := i) (by rw [hlen]; exact hin)
  have heo : e.o = o := by rw [hi] at hoe; exact (Option.some.inj hoe).symm
  subst heo
  have hee : e ∈ es := by rw [hes]; simp
  have FA := hchA.facts (fun j k hj hk hjk => (ho.wait j _ (Array.getElem?_eq_getElem hj) k hk hjk).1) hn hout
  have hBi : ∀ x ∈ B, x ∈ es := fun x hx => by rw [hes]; simp [hx]
  have hAi : ∀ x ∈ A, x ∈ es := fun x hx => by rw [hes]; simp [hx]
  have hAlt : ∀ x ∈ A, x.i < i := fun x hx => by have := (hchA.idx x hx).1; omega
  have hcase : ∀ x ∈ es, x ∈ B ∨ x = e ∨ x ∈ A := fun x hx => by rw [hes] at hx; simpa using hx
  have uniq : ∀ x ∈ es, x.i = i → x = e := fun x hx hxi => by
    rcases hcase x hx with h | h | h
    · have := hB x h; omega
    · exact h
    · have := hAlt x h; omega
  have hopB : ∀ x ∈ es, ops[x.i]? = some x.o := fun x hx => (hch.idx x hx).2
  -- what is listed does not wait for it
  have hnw : ∀ k, L k = true → waits b k i = true → False := fun k hk hkw => by
    have := inv.dn.down k i hin hk hkw
    rw [hLi] at this; cases this
  have hT : ∀ t, t ∈ e.o.looksAt ops → VR p (tm1.get t) (a.tmps.getD t undef) := fun t ht => by
    have hmem : t ∈ namesOf ops e.o := List.mem_append_right _ ht
    by_cases htn : t < tm0.n
    · rw [FA.get t]
      have e1 : valL tm0 L es t = valL tm0 (fun _ => true) A t := by
        have : es = (B ++ [e]) ++ A := by rw [hes]; simp
        rw [this, valL_app (B ++ [e]) A fun x hx hd => ?_, valL_congr (L' := L) (L := fun _ => true) A fun x hx hd => ?_]
        · rcases ho.pair x.i x.o i e.o (hopB x (hAi x hx)) hi (hAlt x hx) with h | h
          · exact hw x.i (lt_of_ops (hopB x (hAi x hx))) h
          · exact (h.1 t hd hmem).elim
        · rcases List.mem_append.1 hx with hx | hx
          · cases hLx : L x.i with
            | false => rfl
            | true =>
              rcases ho.pair i e.o x.i x.o hi (hopB x (hBi x hx)) (hB x hx) with h | h
              · exact (hnw _ hLx h).elim
              · exact (h.2 t hd hmem).elim
          · have : x = e := by simpa using hx
            rw [this, hei]; exact hLi
      rw [← e1]; exact inv.val t htn
    · have e1 : tm1.get t = undef := by unfold Tm.get; rw [FA.out t (Nat.le_of_not_lt htn)]; rfl
      rw [e1, Array.getD_eq_getD_getElem?, Array.getElem?_eq_none (by rw [inv.size]; exact Nat.le_of_not_lt htn)]
      exact .flat rfl
  have hW : Region.wanted e.o (yielded ops a.tmps) = wantedA ops e.o tm1 := wanted_of (by rw [FA.n]; exact inv.size) (fun j hj => FA.out j (by rw [FA.n] at hj; exact hj)) hT
  have hgl1 : ∀ g, g < tm1.g → ∃ z, p g = some (g, z) := fun g hg => let ⟨z, hz⟩ := hgl g (by rw [FA.g] at hg; exact hg); ⟨z, inv.le _ _ hz⟩
  have next : ∀ q w' v' pl', p.le q → M c q (stL s0 L' es) w' → Los c q (stL s0 L' es) w' (Ub b es L') pl' → Vs (stL s0 L' es) (Vb b es L') → (∀ f ∈ es, ∀ id x, f.r = .fresh id x → L' f.i = false → q id = none) → VR q e.v v' →
      K (a.put e.o.dst v') w' := fun q w' v' pl' hq hm hl hv hno hvr => by
    refine hK _ _ q pl' ⟨⟨fun j k hk hj hjk => ?_⟩, Pl.le_trans inv.le hq, hm, hl, hv, hno, ?_, fun t ht => ?_, ?_⟩
    · by_cases hki : k = i
      · rw [hki]; exact h1
      · rw [h2 k hki]
        by_cases hji : j = i
        · subst hji; exact hw k hk hjk
        · rw [h2 j hji] at hj; exact inv.dn.down j k hk hj hjk
    · cases hd : e.o.dst with
      | none => exact inv.size
      | some t => show (a.tmps.setIfInBounds t v').size = _; rw [Array.size_setIfInBounds]; exact inv.size
    · by_cases hd : e.o.dst = some t
      · have e1 : valL tm0 L' es t = e.v := by
          rw [hes, valL_app B (e :: A) fun x hx hdx => ?_]
          · show (if L' e.i = true ∧ e.o.dst = some t then e.v else _) = e.v
            rw [if_pos ⟨by rw [hei]; exact h1, hd⟩]
          · have := hB x hx
            rw [h2 x.i (by omega)]
            cases hLx : L x.i with
            | false => rfl
            | true =>
              rcases ho.pair i e.o x.i x.o hi (hopB x (hBi x hx)) (hB x hx) with h | h
              · exact (hnw _ hLx h).elim
              · exact (h.1 t hd (List.mem_append_left _ (by rw [hdx]; simp))).elim
        rw [e1]
        have e2 : (a.put e.o.dst v').tmps.getD t undef = v' := by
          rw [hd]
          show (a.tmps.setIfInBounds t v').getD t undef = v'
          rw [Array.getD_eq_getD_getElem?, Array.getElem?_setIfInBounds, if_pos rfl, if_pos (by rw [inv.size]; exact ht)]; rfl
        rw [e2]; exact hvr
      · have e1 : valL tm0 L' es t = valL tm0 L es t := valL_congr es fun x hx hdx => h2 x.i fun hxi => hd (by rw [uniq x hx hxi] at hdx; exact hdx)
        rw [e1]
        have e2 : (a.put e.o.dst v').tmps.getD t undef = a.tmps.getD t undef := by
          cases hd2 : e.o.dst with
          | none => rfl
          | some u =>
            show (a.tmps.setIfInBounds u v').getD t undef = _
            rw [Array.getD_eq_getD_getElem?, Array.getD_eq_getD_getElem?, Array.getElem?_setIfInBounds, if_neg (fun e => hd (by rw [hd2, e]))]
        rw [e2]; exact (inv.val t ht).le hq
    · cases e.o.dst <;> exact inv.defs
  have hstay : actSt e.r = none → stL s0 L' es = stL s0 L es := fun hr => stL_congr es fun x hx hax => h2 x.i fun hxi => by rw [uniq x hx hxi, hr] at hax; cases hax
  have hUsub : ∀ id x, Ub b es L' id x → (∀ f ∈ es, f.r = .fresh id x → f.i ≠ i) → Ub b es L id x := fun id x hu hne => by
    obtain ⟨f, k1, k2, k3, k4⟩ := hu
    have := hne f k1 k2
    rw [h2 f.i this] at k3
    refine ⟨f, k1, k2, k3, fun y hy hay hLy => k4 y hy hay ?_⟩
    by_cases hyi : y.i = i
    · rw [hyi]; exact h1
    · rw [h2 y.i hyi]; exact hLy
  have hVsub : ∀ id, Vb b es L' id → Vb b es L id := fun id hv => by
    obtain ⟨f, k1, x, k2, k4⟩ := hv
    refine ⟨f, k1, x, k2, fun y hy hay hLy => k4 y hy hay ?_⟩
    by_cases hyi : y.i = i
    · rw [hyi]; exact h1
    · rw [h2 y.i hyi]; exact hLy
  have hnon : ∀ f ∈ es, ∀ id x, f.r = .fresh id x → L' f.i = false → p id = none := fun f hf id x hr hL => by
    refine inv.non f hf id x hr ?_
    rw [← h2 f.i (fun e => by rw [e, h1] at hL; cases hL)]; exact hL
  unfold wpOpIn
  simp only [hi]
  rw [hW]
  unfold Stp at hstp
  split at hstp
  · rename_i hr
    obtain ⟨g1, g2, _, _⟩ := hstp
    rw [htm] at g1
    rw [g1]
    simp only [Bool.false_eq_true, if_false]
    refine ⟨fun f _ => trivial, ?_⟩
    have hst := hstay (by rw [hr]; rfl)
    have hne : ∀ id x, ∀ f ∈ es, f.r = .fresh id x → f.i ≠ i := fun id x f hf hfr hfi => by rw [uniq f hf hfi, hr] at hfr; cases hfr
    exact next p w undef pl p.le_refl (by rw [hst]; exact inv.m) (by rw [hst]; exact inv.los.sub fun id x hu => hUsub id x hu (hne id x)) (by rw [hst]; exact inv.vs.sub hVsub) hnon (by rw [g2]; exact .flat rfl)
  · rename_i k0 hr
    obtain ⟨g1, g2, g3, g4, g5, _, _⟩ := hstp
    rw [htm] at g1 g4
    rw [g1]
    simp only [if_true]
    have hO := opR_of hT hgl1 g2
    have hpk : peekOp P e.o e.tm (stL s0 L es) = some e.v := by
      refine hsame e hee k0 hr ((wsOf es).filter L).length _ ?_ ?_ (nth_now inv.dn hch)
      · refine filter_le _ _ _ fun x hx hwx => ?_
        obtain ⟨y, k1, k2, _⟩ := ws_mem hx
        exact hw x (by rw [← k2]; exact lt_of_ops (hopB y k1)) (by rw [← hei]; exact hwx)
      · refine filter_le _ _ _ fun x hx hLx => ?_
        cases hwx : waits b x e.i with
        | false => rfl
        | true => exact (hnw x hLx (by rw [← hei]; exact hwx)).elim
    rw [htm] at hpk
    obtain ⟨v', k1, k2⟩ := peek_sound hz inv.m hO g3 hpk
    have hnd : ∀ cl, e.o.op ≠ .defer cl := fun cl he => by
      unfold peekOp at hpk
      rw [he] at hpk
      cases hpk
    refine ⟨fun f _ => trivial, ?_⟩
    rw [Oper.semAt_eq _ _ _ hnd, k1]
    have hst := hstay (by rw [hr]; rfl)
    have hne : ∀ id x, ∀ f ∈ es, f.r = .fresh id x → f.i ≠ i := fun id x f hf hfr hfi => by rw [uniq f hf hfi, hr] at hfr; cases hfr
    exact next p w v' pl p.le_refl (by rw [hst]; exact inv.m) (by rw [hst]; exact inv.los.sub fun id x hu => hUsub id x hu (hne id x)) (by rw [hst]; exact inv.vs.sub hVsub) hnon k2
  · rename_i sa sb hr
    obtain ⟨g1, g2, g3, g4, g5, g6, _⟩ := hstp
    rw [htm] at g1 g6
    rw [g1]
    simp only [if_true]
    have hO := opR_of hT hgl1 g2
    have hae : (actSt e.r).isSome = true := by rw [hr]; rfl
    have hAL : ∀ y ∈ A, (actSt y.r).isSome = true → L y.i = true := acts_last inv.dn hchA (s2 := s2) (ps2 := ps2) (by unfold Stp; rw [hr]; exact ⟨by rw [htm]; exact g1, g2, g3, g4, g5, by rw [htm]; exact g6, by assumption⟩) hae (fun k hk hwk => hw k hk (by rw [← hei]; exact hwk))
    have hBL : ∀ y ∈ B, (actSt y.r).isSome = true → L y.i = false := fun y hy hay => by
      cases hLy : L y.i with
      | false => rfl
      | true =>
        have := acts_cl inv.dn hch y (hBi y hy) e hee hay hae (by rw [hei]; exact hB y hy) hLy
        rw [hei, hLi] at this; cases this
    have hLA : ∀ y ∈ es, (actSt y.r).isSome = true → L y.i = true → y ∈ A := fun y hy hay hLy => by
      rcases hcase y hy with h | h | h
      · rw [hBL y h hay] at hLy; cases hLy
      · rw [h, hei, hLi] at hLy; cases hLy
      · exact h
    have hstN : stL s0 L es = s1 := by
      have : es = (B ++ [e]) ++ A := by rw [hes]; simp
      rw [this, stL_app (B ++ [e]) A fun x hx hax => ?_, stL_congr (L' := L) (L := fun _ => true) A fun x hx hax => hAL x hx hax, ← FA.st]
      rcases List.mem_append.1 hx with hx | hx
      · exact hBL x hx hax
      · have : x = e := by simpa using hx
        rw [this, hei]; exact hLi
    have hstL : stL s0 L' es = sb := by
      rw [hes, stL_app B (e :: A) fun x hx hax => ?_]
      · show (match actSt e.r with | some s1 => if L' e.i = true then s1 else _ | none => _) = sb
        rw [hr]
        show (if L' e.i = true then sb else _) = sb
        rw [hei, if_pos h1]
      · have := hB x hx
        rw [h2 x.i (by omega)]; exact hBL x hx hax
    have hm0 := inv.m
    have hl0 := inv.los
    have hv0 := inv.vs
    rw [hstN] at hm0 hl0 hv0
    have hjin : ∀ q ∈ ps1, waits b i q.i = true → Ub b es L q.id q.x := fun q hq hwq => by
      obtain ⟨f, k1, k2, k3, k4, k5⟩ := FA.pend q hq
      refine ⟨f, hAi f k1, k2, ?_, fun y hy hay hLy => ?_⟩
      · rw [k3]; exact hw q.i (by rw [← k3]; exact lt_of_ops (hopB f (hAi f k1))) hwq
      · rw [k3]; exact k5 y (hLA y hy hay hLy) hay
    rw [hei] at g5
    obtain ⟨j1, j2, j3⟩ := joinFor_ok b i ps1 s1 (Ub b es L) hm0 hl0 hjin FA.nodup
    have j4 := joinFor_vs b i ps1 s1 (Vb b es L) hv0 fun q hq hwq => (hl0.each _ _ (hjin q hq hwq)).olds
    rw [g5] at j1 j2 j3 j4
    simp only at j1 j2 j3 j4
    refine op_act hz (by rw [FA.g]; exact hcall) hround (j1.off j2 j4) hO hgl1 g1 g2 g3 g6 fun q w' v' hq hm' hvr => ?_
    obtain ⟨k1, k2, k3, k4, k5⟩ := j1.on j2 j4 hq hm'
    have hfid : ∀ f ∈ es, ∀ id x, f.r = .fresh id x → id = base + f.i := fun f hf id x hfr => by
      obtain ⟨B', e', A', t1, s1', p1', s2', p2', q1, q2, q3, q4, q5, q6, q7, q8⟩ := hch.at (i := f.i) (hch.idx f hf).1
      have hfe : f = e' := by
        rw [q1] at hf
        rcases List.mem_append.1 hf with h | h
        · have := q8 f h; omega
        · rcases List.mem_cons.1 h with h | h
          · exact h
          · have := (q4.idx f h).1; omega
      subst hfe
      unfold Stp at q7
      rw [hfr] at q7
      exact q7.2.2.1
    have hdiff : ∀ f ∈ es, ∀ id x, f.r = .fresh id x → waits b i f.i = false → ∀ q ∈ ps1, waits b i q.i = true → q.id ≠ id := fun f hf id x hfr hwf q hq hwq e => by
      obtain ⟨f2, m1, m2, m3, m4, m5⟩ := FA.pend q hq
      have := hfid f hf id x hfr
      have : q.i = f.i := by omega
      rw [this, hwf] at hwq; cases hwq
    refine next q w' v' pl hq (by rw [hstL]; exact k1) ?_ ?_ (fun f hf id x hfr hL => ?_) hvr
    · rw [hstL]
      refine k2.sub fun id x hu => ?_
      have hb := hUsub id x hu fun f hf hfr hfi => by rw [uniq f hf hfi, hr] at hfr; cases hfr
      refine ⟨hb, ?_⟩
      obtain ⟨f, m1, m2, m3, m4⟩ := hu
      exact hdiff f m1 id x m2 (by have := m4 e hee hae (by rw [hei]; exact h1); rw [hei] at this; exact this)
    · rw [hstL]
      refine k3.sub fun id hv => ⟨hVsub id hv, ?_⟩
      obtain ⟨f, m1, x, m2, m4⟩ := hv
      exact hdiff f m1 id x m2 (by have := m4 e hee hae (by rw [hei]; exact h1); rw [hei] at this; exact this)
    · have hpn := hnon f hf id x hfr hL
      have hLf : L f.i = false := by rw [← h2 f.i (fun e => by rw [e, h1] at hL; cases hL)]; exact hL
      have hvf : Vb b es L id := ⟨f, hf, x, hfr, fun y hy hay hLy => by
        cases hwy : waits b y.i f.i with
        | false => rfl
        | true =>
          have := inv.dn.down y.i f.i (lt_of_ops (hopB f hf)) hLy hwy
          rw [hLf] at this; cases this⟩
      rw [k4 id (by have := (hv0 id hvf).1; omega)]
      exact hpn
  · rename_i id x hr
    obtain ⟨g1, g2, g3, g4, _, _⟩ := hstp
    rw [htm] at g1 g4
    rw [g1]
    simp only [if_true]
    have hO := opR_of hT hgl1 g2
    have hpn : p id = none := inv.non e hee id x hr (by rw [hei]; exact hLi)
    obtain ⟨k1, k2, k3, sz, ob, k4, k5⟩ := fresh_sound hz hO hpn g4
    obtain ⟨v', k6, k7⟩ := k5 w
    have hvf : Vb b es L id := ⟨e, hee, x, hr, fun y hy hay hLy => by
      cases hwy : waits b y.i e.i with
      | false => rfl
      | true => exact (hnw y.i hLy (by rw [← hei]; exact hwy)).elim⟩
    have hlow := (inv.vs id hvf).1
    obtain ⟨m1, m2, m3⟩ := inv.m.loose inv.los k4 hpn hlow (by omega) (hok id (by omega)) (by omega) k2 k1 (inv.vs id hvf).2
    have hnd : ∀ cl, e.o.op ≠ .defer cl := fun cl he => by
      unfold freshOp at g4
      rw [he] at g4
      cases g4
    refine ⟨fun f _ => trivial, ?_⟩
    rw [Oper.semAt_eq _ _ _ hnd, k7]
    have hst := hstay (by rw [hr]; rfl)
    refine next _ _ v' (fun i => if i = id then w.heap.size else pl i) m1 (by rw [hst]; exact m2) ?_ (by rw [hst]; exact inv.vs.sub hVsub) (fun f hf id' x' hfr hL => ?_) k6
    · rw [hst]
      refine m3.sub fun id' x' hu => ?_
      by_cases hc : id' = id ∧ x' = x
      · exact .inr hc
      · refine .inl (hUsub id' x' hu fun f hf hfr hfi => hc ?_)
        rw [uniq f hf hfi, hr] at hfr
        injection hfr with e1 e2
        exact ⟨e1.symm, e2.symm⟩
    · have hpn' := hnon f hf id' x' hfr hL
      have hne : id' ≠ id := fun e1 => by
        have hfe : f.i = i := by
          have hfid : ∀ f ∈ es, ∀ id x, f.r = .fresh id x → id = base + f.i := fun f hf id x hfr => by
            obtain ⟨B', e', A', t1, s1', p1', s2', p2', q1, q2, q3, q4, q5, q6, q7, q8⟩ := hch.at (i := f.i) (hch.idx f hf).1
            have hfe : f = e' := by
              rw [q1] at hf
              rcases List.mem_append.1 hf with h | h
              · have := q8 f h; omega
              · rcases List.mem_cons.1 h with h | h
                · exact h
                · have := (q4.idx f h).1; omega
            subst hfe
            unfold Stp at q7
            rw [hfr] at q7
            exact q7.2.2.1
          have a1 := hfid f hf id' x' hfr
          omega
        rw [hfe, h1] at hL; cases hL
      unfold Pl.add
      rw [if_neg hne]
      exact hpn'

end
end Rn
end Go.Proofs.Ytapidabhdbjnmaa
