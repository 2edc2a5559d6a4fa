/- A run of a call that is handed no memory: regions that draw their order, and the whole. -/
import Derived.Test.YtapidabhdbjnmaaRny
namespace Go.Proofs.Ytapidabhdbjnmaa
namespace Rn

variable {P : Program} {p : Pl} {c : Ctx} {s s' : St} {w : World}

def Ls (listed : Array Bool) (k : Nat) : Bool := listed.getD k false

theorem Ls_set {listed : Array Bool} {i k : Nat} (hi : i < listed.size) : Ls (listed.setIfInBounds i true) k = if k = i then true else Ls listed k := by
  unfold Ls
  rw [Array.getD_eq_getD_getElem?, Array.getD_eq_getD_getElem?, Array.getElem?_setIfInBounds]
  by_cases h : i = k
  · subst h; simp [hi]
  · rw [if_neg h, if_neg (fun e => h e.symm)]

section
variable {call : CallF} {round : RoundF} {ops : Array Oper} {b : Array Nat} {base : Nat} {tm0 : Tm} {s0 : St} {es : List Ent} {tmF : Tm} {sF : St} {psF : List Pend} {p0 : Pl} {ds : List Deferred}

theorem getD_both {listed : Array Bool} {i : Nat} (hi : i < listed.size) : listed.getD i true = Ls listed i := by
  unfold Ls
  rw [Array.getD_eq_getD_getElem?, Array.getD_eq_getD_getElem?, Array.getElem?_eq_getElem hi]; rfl

theorem all_listed (ho : Ord b ops) {listed : Array Bool} (hs : listed.size = ops.size) (hr : Region.ready .any ops listed = []) : ∀ k, k < ops.size → Ls listed k = true := fun k => by
  induction k using Nat.strongRecOn with
  | _ k ih =>
    intro hk
    cases hL : Ls listed k with
    | true => rfl
    | false =>
      exfalso
      have : k ∈ Region.ready .any ops listed := mem_ready.2 ⟨by rw [getD_both (by omega)]; exact hL, ops[k], Array.getElem?_eq_getElem hk, fun e he hb => by
        have h1 := (ho.edge k _ (Array.getElem?_eq_getElem hk) e he hb).1
        exact ih e.on h1 (by omega)⟩
      rw [hr] at this
      cases this

theorem any_ok (hz : Zeros P) (hcall : CallOk P tm0.g call) (hround : RoundOk P round) (hch : Ch P call round ops b base tm0 s0 es tmF sF psF) (hlen : es.length = ops.size) (ho : Ord b ops) (hn : tm0.n ≤ 1000000)
    (hout : ∀ i, tm0.n ≤ i → tm0.t.get i = none) (hsame : Same P b s0 es) (hgl : ∀ g, g < tm0.g → ∃ z, p0 g = some (g, z)) (hok : ∀ id, base ≤ id → c.ok id) (hng : c.nG ≤ base) (hN : c.N ≤ base) {ro : Option Nat} {n : Nat} {Q : Exit → Act → World → Prop}
    (hQ : ∀ q w' a', p0.le q → M c q (joinAll psF sF) w' → TR q tmF a'.tmps → tmF.g = tm0.g → a'.defers = ds → Q .normal a' w') :
    ∀ (fuel : Nat) (l : List Nat) (listed : Array Bool) (a : Act) (w : World) (p : Pl) (pl : Nat → Nat), listed.size = ops.size → l.length = fuel → (∀ k, k < ops.size → Ls listed k = false → k ∈ l) → Inv b ops tm0 s0 es c p0 ds (Ls listed) a w p pl →
      wpAnyIn (Fw ro) n P .any ops Q fuel listed a w := by
  have FF := hch.facts (fun j k hj hk hjk => (ho.wait j _ (Array.getElem?_eq_getElem hj) k hk hjk).1) hn hout
  have hfin : ∀ (listed : Array Bool) (a : Act) (w : World) (p : Pl) (pl : Nat → Nat), (∀ k, k < ops.size → Ls listed k = true) → Inv b ops tm0 s0 es c p0 ds (Ls listed) a w p pl → Q .normal a w := fun listed a w p pl hall inv => by
    have hL : ∀ x ∈ es, Ls listed x.i = true := fun x hx => hall x.i (lt_of_ops (hch.idx x hx).2)
    have hst : stL s0 (Ls listed) es = sF := by
      rw [stL_congr (L' := Ls listed) (L := fun _ => true) es fun x hx _ => hL x hx, ← FF.st]
    have hm := inv.m
    have hl := inv.los
    rw [hst] at hm hl
    refine hQ p w a inv.le (joinAll_ok psF sF _ hm hl (fun q hq => ?_) FF.nodup) ⟨inv.size.trans FF.n.symm, by rw [FF.n]; exact hn, fun i hi => ?_, fun i hi => FF.out i (by rw [FF.n] at hi; exact hi), fun g hg => ?_⟩ FF.g inv.defs
    · obtain ⟨f, k1, k2, k3, k4, k5⟩ := FF.pend q hq
      exact ⟨f, k1, k2, hL f k1, fun y hy hay _ => by rw [k3]; exact k5 y hy hay⟩
    · rw [FF.get i, ← valL_congr (L' := Ls listed) (L := fun _ => true) es fun x hx _ => hL x hx]
      exact inv.val i (by rw [FF.n] at hi; exact hi)
    · obtain ⟨z, hz⟩ := hgl g (by rw [FF.g] at hg; exact hg)
      exact ⟨z, inv.le _ _ hz⟩
  intro fuel
  induction fuel with
  | zero =>
    intro l listed a w p pl hsz hl hmem inv
    have hnil : l = [] := List.length_eq_zero_iff.1 hl
    have hall : ∀ k, k < ops.size → Ls listed k = true := fun k hk => by
      cases hL : Ls listed k with
      | true => rfl
      | false => have := hmem k hk hL; rw [hnil] at this; cases this
    refine ⟨?_, hfin listed a w p pl hall inv⟩
    rw [List.eq_nil_iff_forall_not_mem]
    intro i hi
    obtain ⟨h1, o, h2, _⟩ := mem_ready.1 hi
    rw [getD_both (by rw [hsz]; exact lt_of_ops h2), hall i (lt_of_ops h2)] at h1
    cases h1
  | succ fuel ih =>
    intro l listed a w p pl hsz hl hmem inv
    refine ⟨fun hr => hfin listed a w p pl (all_listed ho hsz hr) inv, fun i hi => ?_⟩
    obtain ⟨h1, o, h2, h3⟩ := mem_ready.1 hi
    have hin := lt_of_ops h2
    rw [getD_both (by rw [hsz]; exact hin)] at h1
    have hset : ∀ k, Ls (listed.setIfInBounds i true) k = if k = i then true else Ls listed k := fun k => Ls_set (by rw [hsz]; exact hin)
    have hil := hmem i hin h1
    refine any_step hz hcall hround hch hlen ho hn hout hsame hgl hok hng hN inv h2 h1 (fun k hk hw => ?_) (L' := Ls (listed.setIfInBounds i true)) (by rw [hset]; exact if_pos rfl) (fun k hk => by rw [hset]; exact if_neg hk) fun a' w' p' pl' inv' => ?_
    · obtain ⟨_, e, he, hb, h4⟩ := ho.wait i o h2 k hk hw
      have hLe : Ls listed e.on = true := h3 e he hb
      rcases h4 with rfl | h4
      · exact hLe
      · exact inv.dn.down e.on k hk hLe h4
    · refine ih (l.erase i) (listed.setIfInBounds i true) a' w' p' pl' (by simp [hsz]) (by rw [List.length_erase_of_mem hil, hl]; rfl) (fun k hk hLk => ?_) inv'
      have hki : k ≠ i := fun e => by rw [hset, if_pos e] at hLk; cases hLk
      rw [hset, if_neg hki] at hLk
      exact (List.mem_erase_of_ne hki).2 (hmem k hk hLk)

theorem at_mem (hch : Ch P call round ops b base tm0 s0 es tmF sF psF) {f : Ent} (hf : f ∈ es) : ∃ B A tm1 s1 ps1 s2 ps2, es = B ++ f :: A ∧ Ch P call round ops b base tm0 s0 A tm1 s1 ps1 ∧ f.tm = tm1 ∧ Stp P call round ops b base f A s1 ps1 s2 ps2 := by
  obtain ⟨B', e', A', t1, s1', p1', s2', p2', q1, q2, q3, q4, q5, q6, q7, q8⟩ := hch.at (i := f.i) (hch.idx f hf).1
  have hfe : f = e' := by
    rw [q1] at hf
    rcases List.mem_append.1 hf with h | h
    · have := q8 f h; omega
    · rcases List.mem_cons.1 h with h | h
      · exact h
      · have := (q4.idx f h).1; omega
  subst hfe
  exact ⟨B', A', t1, s1', p1', s2', p2', q1, q4, q5, q7⟩

theorem fresh_id (hch : Ch P call round ops b base tm0 s0 es tmF sF psF) {f : Ent} (hf : f ∈ es) {id : Nat} {x : Blk} (hr : f.r = .fresh id x) : id = base + f.i := by
  obtain ⟨B, A, tm1, s1, ps1, s2, ps2, h1, h2, h3, h4⟩ := at_mem hch hf
  unfold Stp at h4
  rw [hr] at h4
  exact h4.2.2.1

theorem stL_none {L : Nat → Bool} (h : ∀ k, L k = false) : ∀ (X : List Ent), stL s0 L X = s0
  | [] => rfl
  | x :: X => by
    have ih := stL_none h X
    show (match actSt x.r with | some s1 => if L x.i = true then s1 else stL s0 L X | none => stL s0 L X) = s0
    rw [h x.i, ih]
    split <;> simp
theorem valL_none {L : Nat → Bool} (h : ∀ k, L k = false) (t : Nat) : ∀ (X : List Ent), valL tm0 L X t = tm0.get t
  | [] => rfl
  | x :: X => by
    have ih := valL_none h t X
    show (if L x.i = true ∧ x.o.dst = some t then x.v else valL tm0 L X t) = tm0.get t
    rw [h x.i, ih, if_neg (fun e => Bool.false_ne_true e.1)]
theorem hs_none : ∀ (X : List Ent), (∀ e ∈ X, actSt e.r = none) → hsOf s0 X = [s0]
  | [], _ => rfl
  | x :: X, h => by
    have ih := hs_none X fun e he => h e (List.mem_cons_of_mem _ he)
    have hx := h x (by simp)
    show (match actSt x.r with | some s1 => s1 :: hsOf s0 X | none => hsOf s0 X) = [s0]
    rw [hx]; exact ih

/-- What only reads: any order. -/
theorem quiet_ch : ∀ (l : List Oper) (i : Nat) (tm tm' : Tm) (s s' : St) (es : List Ent), (∀ o ∈ l, kind P o.op = 0) → i = es.length → (∀ j, l[j]? = ops[i + j]?) → (∀ e ∈ es, e.r = .skip ∨ ∃ k, e.r = .peek k ∧ peekOp P e.o e.tm s = some e.v) → Ch P call round ops b base tm0 s es tm s [] →
    runOps P call round ops l tm s = some (tm', s') → s' = s ∧ ∃ es', Ch P call round ops b base tm0 s es' tm' s [] ∧ es'.length = i + l.length ∧ ∀ e ∈ es', e.r = .skip ∨ ∃ k, e.r = .peek k ∧ peekOp P e.o e.tm s = some e.v
  | [], i, tm, tm', s, s', es, _, hi, _, hq, hch, h => by
    injection h with h
    injection h with e1 e2
    subst e1; subst e2
    exact ⟨rfl, es, hch, by simp [hi], hq⟩
  | o :: l, i, tm, tm', s, s', es, hk, hi, hl, hq, hch, h => by
    rw [runOps_cons] at h
    unfold putNext at h
    split at h
    · cases h
    · rename_i v s1 hdo
      split at h
      · cases h
      · rename_i tm1 ht
        have hoi : ops[i]? = some o := by have := hl 0; simpa using this.symm
        have hko := hk o (by simp)
        have hl' : ∀ j, l[j]? = ops[i + 1 + j]? := fun j => by
          have := hl (j + 1)
          rw [show i + 1 + j = i + (j + 1) by omega]
          simpa using this
        unfold doOp at hdo
        cases hw : wantedA ops o tm with
        | false =>
          rw [hw, bi_false] at hdo
          injection hdo with hdo
          injection hdo with e1 e2
          subst e1; subst e2
          obtain ⟨g1, es', g2, g3, g4⟩ := quiet_ch l (i + 1) tm1 tm' s s' (⟨i, o, tm, undef, .skip⟩ :: es) (fun o ho => hk o (by simp [ho])) (by simp [hi]) hl' (fun e he => by
            rcases List.mem_cons.1 he with rfl | he
            · exact .inl rfl
            · exact hq e he) (.cons (e := ⟨i, o, tm, undef, .skip⟩) hch hi hoi rfl ht ⟨hw, rfl, rfl, rfl⟩) h
          exact ⟨g1, es', g2, by rw [g3]; simp; omega, g4⟩
        | true =>
          rw [hw, bi_true] at hdo
          unfold stepOp at hdo
          cases hc : constsOk o.op with
          | false => rw [hc] at hdo; cases hdo
          | true =>
            rw [hc, bi_true, hko] at hdo
            have hdo : goOn call round (peekStep P o tm s) = some (v, s1) := hdo
            unfold peekStep at hdo
            cases hp : peekOp P o tm s with
            | none => rw [hp] at hdo; cases hdo
            | some u =>
              rw [hp] at hdo
              injection hdo with hdo
              injection hdo with e1 e2
              subst e1; subst e2
              obtain ⟨g1, es', g2, g3, g4⟩ := quiet_ch l (i + 1) tm1 tm' s s' (⟨i, o, tm, u, .peek (wsOf es).length⟩ :: es) (fun o ho => hk o (by simp [ho])) (by simp [hi]) hl' (fun e he => by
                rcases List.mem_cons.1 he with rfl | he
                · exact .inr ⟨_, rfl, hp⟩
                · exact hq e he) (.cons (e := ⟨i, o, tm, u, .peek (wsOf es).length⟩) hch hi hoi rfl ht ⟨hw, hc, hko, hp, rfl, rfl, rfl⟩) h
              exact ⟨g1, es', g2, by rw [g3]; simp; omega, g4⟩

theorem same_of (hb : ∀ j i, j < ops.size → i < ops.size → waits b j i = true → i < j) (hn : tm0.n ≤ 1000000) (hout : ∀ i, tm0.n ≤ i → tm0.t.get i = none) (hch : Ch P call round ops b base tm0 s0 es tmF sF psF)
    (h : es.all (entOk P b (wsOf es) (hsOf s0 es).reverse) = true) : Same P b s0 es := fun e he k0 hr k s1 hlo hhi hnth => by
  have := (List.all_eq_true.1 h) e he
  unfold entOk at this
  rw [hr] at this
  simp only [List.all_eq_true] at this
  have := this k (List.mem_range.2 (Nat.lt_succ_of_le hhi))
  simp only [Bool.or_eq_true] at this
  rcases this with (h1 | h1) | h1
  · have := blt h1; omega
  · have hk := Nat.eq_of_beq_eq_true h1
    obtain ⟨B, A, tm1, sA, ps1, s2, ps2, g1, g2, g3, g4⟩ := at_mem hch he
    unfold Stp at g4
    rw [hr] at g4
    obtain ⟨_, _, _, g5, g6, _, _⟩ := g4
    have hat := nth_at (s0 := s0) B e A (by rw [hr]; rfl)
    rw [← g1, ← g6, ← hk, hnth] at hat
    injection hat with hat
    rw [hat, ← (g2.facts hb hn hout).st]
    exact g5
  · rw [hnth] at h1
    simp only at h1
    split at h1
    · rename_i v hv
      rw [hv, sameVN_eq 5 v e.v h1]
    · cases h1

end

theorem draw_ok (hz : Zeros P) {orc : Orc} (horc : OrcOk P orc) (hmix : P.follows .mixedOrders = true) : DrawOk P orc := fun ex hex c p s w ro' ops tm tm' s' a n id Q hm hT h hQ => by
  unfold drawRegion at h
  cases hoo : orderOk ops with
  | false => rw [hoo] at h; cases h
  | true =>
    rw [hoo, cond_true] at h
    have hord := ord_of hoo
    have hb : ∀ j i, j < ops.size → i < ops.size → waits (Region.before ops) j i = true → i < j := fun j k hj hk hjk => (hord.wait j _ (Array.getElem?_eq_getElem hj) k hk hjk).1
    refine wpIn_region_any hmix ?_
    have hm := hm.drew
    have hcall := call_ok hz horc hex tm.g
    have hround := round_ok hex
    have hL0 : ∀ k, Ls (Array.replicate ops.size false) k = false := fun k => by
      unfold Ls
      rw [Array.getD_eq_getD_getElem?, Array.getElem?_replicate]
      split <;> rfl
    cases hq : quietAll P ops with
    | true =>
      rw [hq, cond_true] at h
      obtain ⟨e, es, hch, hlen, hes⟩ := quiet_ch (b := Region.before ops) (base := s.next) (tm0 := tm) ops.toList 0 tm tm' s s' [] (fun o ho => by
        unfold quietAll at hq
        exact Nat.eq_of_beq_eq_true ((List.all_eq_true.1 hq) o ho)) rfl (fun j => by simp) (fun e he => by cases he) .nil h
      subst e
      have hna : ∀ e ∈ es, actSt e.r = none := fun e he => by
        rcases hes e he with h | ⟨k, h, _⟩ <;> (rw [h]; rfl)
      have hnf : ∀ e ∈ es, ∀ id x, e.r ≠ .fresh id x := fun e he id x hf => by
        rcases hes e he with h | ⟨k, h, _⟩ <;> (rw [h] at hf; cases hf)
      refine any_ok hz hcall hround hch (by simpa using hlen) hord hT.small hT.out (fun e he k0 hr k s1 _ _ hnth => ?_) hT.glob (fun id hid => hm.okk.1 id hid) hm.ng hm.pk.1 (ds := a.defers) (fun q w' a' h1 h2 h3 h4 h5 => hQ q w' a' h1 h2 h3 h4 h5)
        ops.size (List.range ops.size) _ a _ p (fun _ => 0) (by simp) (by simp) (fun k hk _ => List.mem_range.2 hk) ⟨⟨fun j k _ hj _ => (by rw [hL0] at hj; cases hj)⟩, p.le_refl, ?_, ⟨fun id x hu => ?_, fun id x id2 x2 hu => ?_⟩, fun id hv => ?_, fun f hf id x hfr => (hnf f hf id x hfr).elim, hT.size, fun t ht => ?_, rfl⟩
      · rw [hs_none es hna] at hnth
        rw [nth_eq] at hnth
        have : s1 = s' := by
          cases k with
          | zero => simpa using hnth.symm
          | succ k => simp at hnth
        rw [this]
        rcases hes e he with h | ⟨k, _, h⟩
        · rw [h] at hr; cases hr
        · exact h
      · rw [stL_none hL0]; exact hm
      · obtain ⟨f, k1, k2, _⟩ := hu; exact (hnf f k1 id x k2).elim
      · obtain ⟨f, k1, k2, _⟩ := hu; exact (hnf f k1 id x k2).elim
      · obtain ⟨f, k1, x, k2, _⟩ := hv; exact (hnf f k1 id x k2).elim
      · rw [valL_none hL0]; exact hT.get t ht
    | false =>
      rw [hq, cond_false] at h
      simp only at h
      split at h
      · cases h
      · rename_i ap hap
        cases hen : ap.es.all (entOk P (Region.before ops) ap.ws ap.hs.reverse) with
        | false => rw [hen] at h; cases h
        | true =>
          rw [hen, cond_true] at h
          injection h with h
          injection h with e1 e2
          subst e1; subst e2
          obtain ⟨⟨hch, hws, hhs⟩, hlen⟩ := pass_ok (tm0 := tm) (s0 := ⟨s.heap, s.next + ops.size⟩) ops.toList 0 _ ap ⟨.nil, rfl, rfl⟩ rfl (fun j => by simp) hap
          rw [hws, hhs] at hen
          have hmr := hm.room ops.size
          have hlen' : ap.es.length = ops.size := by simpa using hlen
          refine any_ok hz hcall hround hch hlen' hord hT.small hT.out (same_of hb hT.small hT.out hch hen) hT.glob (fun id hid => hm.okk.1 id hid) hm.ng hm.pk.1 (ds := a.defers) (fun q w' a' h1 h2 h3 h4 h5 => hQ q w' a' h1 h2 h3 h4 h5)
            ops.size (List.range ops.size) _ a _ p (fun _ => 0) (by simp) (by simp) (fun k hk _ => List.mem_range.2 hk) ⟨⟨fun j k _ hj _ => (by rw [hL0] at hj; cases hj)⟩, p.le_refl, ?_, ⟨fun id x hu => ?_, fun id x id2 x2 hu => ?_⟩, fun id hv => ?_, fun f hf id x hfr _ => ?_, hT.size, fun t ht => ?_, rfl⟩
          · rw [stL_none hL0]; exact hmr
          · obtain ⟨f, k1, k2, k3, _⟩ := hu; rw [hL0] at k3; cases k3
          · obtain ⟨f, k1, k2, k3, _⟩ := hu; rw [hL0] at k3; cases k3
          · rw [stL_none hL0]
            obtain ⟨f, k1, x, k2, _⟩ := hv
            have h1 := fresh_id hch k1 k2
            have h2 := (hch.idx f k1).1
            refine ⟨?_, fun d y hd => ?_⟩
            · show id < s.next + ops.size
              omega
            · have h3 := hm.lt hd
              refine ⟨by omega, fun hmem => ?_⟩
              have := hm.olds d id y hd hmem
              omega
          · have h1 := fresh_id hch hf hfr
            exact hm.fresh id (by omega)
          · rw [valL_none hL0]; exact hT.get t ht

end Rn
end Go.Proofs.Ytapidabhdbjnmaa
