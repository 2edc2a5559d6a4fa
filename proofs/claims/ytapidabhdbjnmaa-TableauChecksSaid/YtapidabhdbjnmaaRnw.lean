/- A run of a call that is handed no memory: what a pass in the order of the text leaves. -/
import Derived.Test.YtapidabhdbjnmaaRnv
namespace Go.Proofs.Ytapidabhdbjnmaa
namespace Rn

variable {P : Program} {p : Pl} {c : Ctx} {s s' : St} {w : World}

def actSt : Role → Option St
  | .act _ s1 => some s1
  | _ => none

def wsOf : List Ent → List Nat
  | [] => []
  | e :: r => match actSt e.r with
    | some _ => e.i :: wsOf r
    | none => wsOf r
def hsOf (s0 : St) : List Ent → List St
  | [] => [s0]
  | e :: r => match actSt e.r with
    | some s1 => s1 :: hsOf s0 r
    | none => hsOf s0 r
noncomputable def valL (tm0 : Tm) (L : Nat → Bool) : List Ent → Nat → Value
  | [], t => tm0.get t
  | e :: r, t => if L e.i = true ∧ e.o.dst = some t then e.v else valL tm0 L r t
def stL (s0 : St) (L : Nat → Bool) : List Ent → St
  | [] => s0
  | e :: r => match actSt e.r with
    | some s1 => if L e.i = true then s1 else stL s0 L r
    | none => stL s0 L r

/-- What one operation did. -/
def Stp (P : Program) (call : CallF) (round : RoundF) (ops : Array Oper) (b : Array Nat) (base : Nat) (e : Ent) (es : List Ent) (s : St) (ps : List Pend) (s' : St) (ps' : List Pend) : Prop :=
  match e.r with
  | .skip => wantedA ops e.o e.tm = false ∧ e.v = undef ∧ s' = s ∧ ps' = ps
  | .peek k => wantedA ops e.o e.tm = true ∧ constsOk e.o.op = true ∧ kind P e.o.op = 0 ∧ peekOp P e.o e.tm s = some e.v ∧ k = (wsOf es).length ∧ s' = s ∧ ps' = ps
  | .act sa sb => wantedA ops e.o e.tm = true ∧ constsOk e.o.op = true ∧ kind P e.o.op = 1 ∧ okLast b e.i (wsOf es) = true ∧ joinFor b e.i ps s = (sa, ps') ∧ doOp P call round ops e.o e.tm sa = some (e.v, sb) ∧ s' = sb
  | .fresh id x => wantedA ops e.o e.tm = true ∧ constsOk e.o.op = true ∧ id = base + e.i ∧ freshOp P e.o e.tm id = some (x, e.v) ∧ s' = s ∧ ps' = ⟨e.i, id, x⟩ :: ps

inductive Ch (P : Program) (call : CallF) (round : RoundF) (ops : Array Oper) (b : Array Nat) (base : Nat) (tm0 : Tm) (s0 : St) : List Ent → Tm → St → List Pend → Prop
  | nil : Ch P call round ops b base tm0 s0 [] tm0 s0 []
  | cons {es : List Ent} {tm : Tm} {s : St} {ps : List Pend} {e : Ent} {tm' : Tm} {s' : St} {ps' : List Pend} (h : Ch P call round ops b base tm0 s0 es tm s ps) (hi : e.i = es.length) (ho : ops[e.i]? = some e.o)
      (ht : e.tm = tm) (hp : tm.put e.o.dst e.v = some tm') (hs : Stp P call round ops b base e es s ps s' ps') : Ch P call round ops b base tm0 s0 (e :: es) tm' s' ps'

section
variable {call : CallF} {round : RoundF} {ops : Array Oper} {b : Array Nat} {base : Nat} {tm0 : Tm} {s0 : St}

structure PassOk (P : Program) (call : CallF) (round : RoundF) (ops : Array Oper) (b : Array Nat) (base : Nat) (tm0 : Tm) (s0 : St) (a : Pass) : Prop where
  ch : Ch P call round ops b base tm0 s0 a.es a.tm a.s a.ps
  ws : a.ws = wsOf a.es
  hs : a.hs = hsOf s0 a.es

theorem passOp_ok {o : Oper} {i : Nat} {a a' : Pass} (h : PassOk P call round ops b base tm0 s0 a) (hi : i = a.es.length) (ho : ops[i]? = some o) (hp : passOp P call round ops b base o i a = some a') :
    PassOk P call round ops b base tm0 s0 a' ∧ a'.es.length = i + 1 := by
  obtain ⟨tm, s, ps, ws, hs, es⟩ := a
  obtain ⟨h1, h2, h3⟩ := h
  simp only at h1 h2 h3 hi
  unfold passOp at hp
  cases hw : wantedA ops o tm with
  | false =>
    simp only [hw, bi_false] at hp
    unfold passSkip at hp
    simp only at hp
    split at hp
    · rename_i tm' ht
      injection hp with hp
      subst hp
      refine ⟨⟨.cons (e := ⟨i, o, tm, undef, .skip⟩) h1 hi ho rfl ht ⟨hw, rfl, rfl, rfl⟩, ?_, ?_⟩, by simp [hi]⟩
      · simp [wsOf, actSt, h2]
      · simp [hsOf, actSt, h3]
    · cases hp
  | true =>
    simp only [hw, bi_true] at hp
    cases hc : constsOk o.op with
    | false => rw [hc] at hp; cases hp
    | true =>
      rw [hc, bi_true] at hp
      unfold passKind at hp
      split at hp
      · rename_i hk
        unfold passPeek at hp
        split at hp
        · rename_i v tm1 s1 ps1 ws1 hs1 es1 hv he
          injection he with e1 e2 e3 e4 e5 e6
          subst e1; subst e2; subst e3; subst e4; subst e5; subst e6
          split at hp
          · rename_i tm' ht
            injection hp with hp
            subst hp
            refine ⟨⟨.cons (e := ⟨i, o, _, v, .peek _⟩) h1 hi ho rfl ht ⟨hw, hc, hk, hv, by rw [h2], rfl, rfl⟩, ?_, ?_⟩, by simp [hi]⟩
            · simp [wsOf, actSt, h2]
            · simp [hsOf, actSt, h3]
          · cases hp
        · cases hp
      · rename_i hk
        unfold passAct at hp
        simp only at hp
        cases hl : okLast b i ws with
        | false => rw [hl] at hp; cases hp
        | true =>
          rw [hl, bi_true] at hp
          generalize hj : joinFor b i ps s = jj at hp
          obtain ⟨sa, ps'⟩ := jj
          simp only at hp
          unfold passAct2 at hp
          split at hp
          · rename_i v sb tm1 s1 ps1 ws1 hs1 es1 hv he
            injection he with e1 e2 e3 e4 e5 e6
            subst e1; subst e2; subst e3; subst e4; subst e5; subst e6
            split at hp
            · rename_i tm' ht
              injection hp with hp
              subst hp
              refine ⟨⟨.cons (e := ⟨i, o, _, v, .act sa sb⟩) h1 hi ho rfl ht ⟨hw, hc, hk, by rw [← h2]; exact hl, hj, hv, rfl⟩, ?_, ?_⟩, by simp [hi]⟩
              · simp [wsOf, actSt, h2]
              · simp [hsOf, actSt, h3]
            · cases hp
          · cases hp
      · unfold passFresh at hp
        split at hp
        · rename_i x v tm1 s1 ps1 ws1 hs1 es1 hv he
          injection he with e1 e2 e3 e4 e5 e6
          subst e1; subst e2; subst e3; subst e4; subst e5; subst e6
          split at hp
          · rename_i tm' ht
            injection hp with hp
            subst hp
            refine ⟨⟨.cons (e := ⟨i, o, _, v, .fresh (base + i) x⟩) h1 hi ho rfl ht ⟨hw, hc, rfl, hv, rfl, rfl⟩, ?_, ?_⟩, by simp [hi]⟩
            · simp [wsOf, actSt, h2]
            · simp [hsOf, actSt, h3]
          · cases hp
        · cases hp

theorem pass_ok : ∀ (l : List Oper) (i : Nat) (a a' : Pass), PassOk P call round ops b base tm0 s0 a → i = a.es.length → (∀ j, l[j]? = ops[i + j]?) → pass P call round ops b base l i a = some a' →
    PassOk P call round ops b base tm0 s0 a' ∧ a'.es.length = i + l.length
  | [], i, a, a', h, hi, _, hp => by
    injection hp with hp
    subst hp
    exact ⟨h, hi.symm⟩
  | o :: l, i, a, a', h, hi, hl, hp => by
    unfold pass at hp
    split at hp
    · rename_i a1 h1
      obtain ⟨g1, g2⟩ := passOp_ok h hi (by have := hl 0; simpa using this.symm) h1
      obtain ⟨k1, k2⟩ := pass_ok l (i + 1) a1 a' g1 g2.symm (fun j => by
        have := hl (j + 1)
        rw [show i + 1 + j = i + (j + 1) by omega]
        simpa using this) hp
      exact ⟨k1, by rw [k2]; simp; omega⟩
    · cases hp

theorem put_get {tm tm' : Tm} {d : Option Tmp} {v : Value} (h : tm.put d v = some tm') (hs : tm.n ≤ 1000000) : ∀ t, tm'.get t = if d = some t then v else tm.get t := fun t => by
  cases d with
  | none =>
    injection h with h
    subst h
    simp
  | some i =>
    obtain ⟨n, g, T⟩ := tm
    have h : Tm.putAt ⟨n, g, T⟩ i v = some tm' := h
    unfold Tm.putAt at h
    simp only at h
    cases hb : Nat.blt i n with
    | false => rw [hb] at h; cases h
    | true =>
      rw [hb, bi_true] at h
      injection h with h
      subst h
      have hi := blt hb
      have hs : n ≤ 1000000 := hs
      have him : Nat.lt i most := Nat.lt_of_lt_of_le hi (Nat.le_trans hs (by unfold most; omega))
      show orUndef ((T.set (some v) i).get t) = _
      rw [T.get_set]
      by_cases hit : i = t
      · subst hit; rw [if_pos ⟨rfl, him⟩, if_pos rfl]; rfl
      · rw [if_neg (fun e => hit e.1), if_neg (fun e => hit (Option.some.inj e))]; rfl

theorem put_out {tm tm' : Tm} {d : Option Tmp} {v : Value} (h : tm.put d v = some tm') (ho : ∀ i, tm.n ≤ i → tm.t.get i = none) : ∀ i, tm.n ≤ i → tm'.t.get i = none := fun t ht => by
  cases d with
  | none =>
    injection h with h
    subst h
    exact ho t ht
  | some i =>
    obtain ⟨n, g, T⟩ := tm
    have h : Tm.putAt ⟨n, g, T⟩ i v = some tm' := h
    unfold Tm.putAt at h
    simp only at h
    cases hb : Nat.blt i n with
    | false => rw [hb] at h; cases h
    | true =>
      rw [hb, bi_true] at h
      injection h with h
      subst h
      have hi := blt hb
      have ht : n ≤ t := ht
      show (T.set (some v) i).get t = none
      rw [T.get_set, if_neg (fun e => by omega)]
      exact ho t ht

structure Facts (b : Array Nat) (base : Nat) (ops : Array Oper) (tm0 : Tm) (s0 : St) (es : List Ent) (tm : Tm) (s : St) (ps : List Pend) : Prop where
  idx : ∀ x ∈ es, x.i < es.length ∧ ops[x.i]? = some x.o
  get : ∀ t, tm.get t = valL tm0 (fun _ => true) es t
  n : tm.n = tm0.n
  g : tm.g = tm0.g
  out : ∀ i, tm0.n ≤ i → tm.t.get i = none
  st : s = stL s0 (fun _ => true) es
  pend : ∀ q ∈ ps, ∃ e ∈ es, e.r = .fresh q.id q.x ∧ e.i = q.i ∧ q.id = base + q.i ∧ ∀ x ∈ es, (actSt x.r).isSome = true → waits b x.i q.i = false
  nodup : (ps.map (·.id)).Nodup

theorem Ch.facts (hb : ∀ j i, j < ops.size → i < ops.size → waits b j i = true → i < j) (hn : tm0.n ≤ 1000000) (hout : ∀ i, tm0.n ≤ i → tm0.t.get i = none) {es : List Ent} {tm : Tm} {s : St} {ps : List Pend}
    (h : Ch P call round ops b base tm0 s0 es tm s ps) : Facts b base ops tm0 s0 es tm s ps := by
  induction h with
  | nil => exact ⟨fun x hx => (by cases hx), fun t => rfl, rfl, rfl, hout, rfl, fun q hq => (by cases hq), List.nodup_nil⟩
  | @cons es tm s ps e tm' s' ps' h hi ho ht hp hs ih =>
    have hidx : ∀ x ∈ e :: es, x.i < (e :: es).length ∧ ops[x.i]? = some x.o := fun x hx => by
      rcases List.mem_cons.1 hx with rfl | hx
      · exact ⟨by rw [hi]; simp, ho⟩
      · obtain ⟨k1, k2⟩ := ih.idx x hx
        exact ⟨Nat.lt_trans k1 (by simp), k2⟩
    have hsize : ∀ x ∈ e :: es, x.i < ops.size := fun x hx => by
      have := (hidx x hx).2
      rcases Nat.lt_or_ge x.i ops.size with h' | h'
      · exact h'
      · rw [Array.getElem?_eq_none h'] at this; cases this
    have hold : ∀ q ∈ ps, actSt e.r = none → ∃ x ∈ e :: es, x.r = .fresh q.id q.x ∧ x.i = q.i ∧ q.id = base + q.i ∧ ∀ x ∈ e :: es, (actSt x.r).isSome = true → waits b x.i q.i = false := fun q hq hna => by
      obtain ⟨x, k1, k2, k3, k4, k5⟩ := ih.pend q hq
      refine ⟨x, List.mem_cons_of_mem _ k1, k2, k3, k4, fun y hy ha => ?_⟩
      rcases List.mem_cons.1 hy with rfl | hy
      · rw [hna] at ha; cases ha
      · exact k5 y hy ha
    have hget : ∀ t, tm'.get t = valL tm0 (fun _ => true) (e :: es) t := fun t => by
      rw [put_get hp (by rw [ih.n]; exact hn) t, ih.get t]
      simp [valL]
    have hout' : ∀ i, tm0.n ≤ i → tm'.t.get i = none := fun i hi => put_out hp (fun j hj => ih.out j (by rw [ih.n] at hj; exact hj)) i (by rw [ih.n]; exact hi)
    have mk : s' = stL s0 (fun _ => true) (e :: es) → (∀ q ∈ ps', ∃ x ∈ e :: es, x.r = .fresh q.id q.x ∧ x.i = q.i ∧ q.id = base + q.i ∧ ∀ x ∈ e :: es, (actSt x.r).isSome = true → waits b x.i q.i = false) → (ps'.map (·.id)).Nodup →
        Facts b base ops tm0 s0 (e :: es) tm' s' ps' := fun k1 k2 k3 => ⟨hidx, hget, (put_same hp).1.trans ih.n, (put_same hp).2.trans ih.g, hout', k1, k2, k3⟩
    unfold Stp at hs
    split at hs
    · rename_i hr
      obtain ⟨_, _, e1, e2⟩ := hs
      subst e1; subst e2
      exact mk (by simp [stL, hr, actSt]; exact ih.st) (fun q hq => hold q hq (by rw [hr]; rfl)) ih.nodup
    · rename_i hr
      obtain ⟨_, _, _, _, _, e1, e2⟩ := hs
      subst e1; subst e2
      exact mk (by simp [stL, hr, actSt]; exact ih.st) (fun q hq => hold q hq (by rw [hr]; rfl)) ih.nodup
    · rename_i sa sb hr
      obtain ⟨_, _, _, _, hj, _, e1⟩ := hs
      subst e1
      have hj2 : ps' = (joinFor b e.i ps s).2 := by rw [hj]
      refine mk (by simp [stL, hr, actSt]) (fun q hq => ?_) (by rw [hj2]; exact joinFor_nodup b e.i ps s ih.nodup)
      rw [hj2] at hq
      obtain ⟨g1, g2⟩ := joinFor_snd b e.i ps s q hq
      obtain ⟨x, k1, k2, k3, k4, k5⟩ := ih.pend q g1
      refine ⟨x, List.mem_cons_of_mem _ k1, k2, k3, k4, fun y hy ha => ?_⟩
      rcases List.mem_cons.1 hy with rfl | hy
      · exact g2
      · exact k5 y hy ha
    · rename_i id x hr
      obtain ⟨_, _, hid, _, e1, e2⟩ := hs
      subst e1; subst e2
      refine mk (by simp [stL, hr, actSt]; exact ih.st) (fun q hq => ?_) ?_
      · rcases List.mem_cons.1 hq with rfl | hq
        · refine ⟨e, by simp, hr, rfl, hid, fun y hy ha => ?_⟩
          rcases List.mem_cons.1 hy with rfl | hy
          · rw [hr] at ha; cases ha
          · cases hw : waits b y.i e.i with
            | false => rfl
            | true =>
              have h1 := hb _ _ (hsize y (List.mem_cons_of_mem _ hy)) (hsize e (by simp)) hw
              have h2 := (ih.idx y hy).1
              omega
        · exact hold q hq (by rw [hr]; rfl)
      · rw [List.map_cons, List.nodup_cons]
        refine ⟨fun hm => ?_, ih.nodup⟩
        obtain ⟨q, hq, eq⟩ := List.mem_map.1 hm
        obtain ⟨y, k1, _, k3, k4, _⟩ := ih.pend q hq
        have h2 := (ih.idx y k1).1
        have eq : q.id = id := eq
        omega

theorem Ch.at {es : List Ent} {tm : Tm} {s : St} {ps : List Pend} (h : Ch P call round ops b base tm0 s0 es tm s ps) {i : Nat} (hi : i < es.length) :
    ∃ B e A tm1 s1 ps1 s2 ps2, es = B ++ e :: A ∧ e.i = i ∧ A.length = i ∧ Ch P call round ops b base tm0 s0 A tm1 s1 ps1 ∧ e.tm = tm1 ∧ ops[i]? = some e.o ∧ Stp P call round ops b base e A s1 ps1 s2 ps2 ∧ ∀ x ∈ B, i < x.i := by
  induction h with
  | nil => cases hi
  | @cons es tm s ps e tm' s' ps' h hi' ho ht hp hs ih =>
    by_cases hc : i = es.length
    · subst hc
      exact ⟨[], e, es, tm, s, ps, s', ps', rfl, hi', rfl, h, ht, by rw [← hi']; exact ho, hs, fun x hx => by cases hx⟩
    · obtain ⟨B, e1, A, tm1, s1, ps1, s2, ps2, k1, k2, k3, k4, k5, k6, k7, k8⟩ := ih (by simp at hi; omega)
      refine ⟨e :: B, e1, A, tm1, s1, ps1, s2, ps2, by rw [k1]; rfl, k2, k3, k4, k5, k6, k7, fun x hx => ?_⟩
      rcases List.mem_cons.1 hx with rfl | hx
      · simp at hi; omega
      · exact k8 x hx

end
end Rn
end Go.Proofs.Ytapidabhdbjnmaa
