/- Walks and plain mathematics: Fax, Fap, PwFarg, PwAdv, PwCount, PwFirst, PwAwf, Cnt, PwCnt, RefA, RefB, RefC, PwAwake, PwLess, PwProdE, PwXgcd, RefD, PwGcdApi, PwOwnAll. -/
import Derived.Test.YtbehihanhfmmhaaGreatG10
import Derived.Test.YtbehihanhfmmhaaGreatG04
import Derived.Test.YtbehihanhfmmhaaGreatG03
import Derived.Test.YtbehihanhfmmhaaGreatG01
import Derived.Test.YtbehihanhfmmhaaGreatG09
import Derived.Deep.LoopGhost
import Derived.BigQuiet
import Derived.BigRegion
namespace Go.Proofs.YtbehihanhfmmhaaGreat
namespace Q
variable {p : Nat}

theorem takeOut_is (hP : M.Pr p) {g : List Nat} (hg : MIrr p g) : ∀ (n exp : Nat) {f : List Nat}, Pol p f → Mon f → f.length < n →
    ∃ k f', takeOut p g n exp f = some (exp + k, f') ∧ Pol p f' ∧ Mon f' ∧ ev p f = pw (ev p g) k * ev p f' ∧ ¬ DX p g (ev p f')
  | 0, exp, f, hf, mf, hl => by omega
  | n + 1, exp, f, hf, mf, hl => by
    have hg0 := hg.irr.ne
    have D := div_is hP hf hg.irr.pol hg0
    rw [takeOut]
    by_cases h : (divP p f g).2.length = 0
    · rw [if_pos h]
      have hval := D.val
      rw [List.eq_nil_of_length_eq_zero h, ev_nil, Px.add_zero] at hval
      have e1 := eq_prod hP hf D.qpol hg.irr.pol hval
      have mq := mon_cofactor hP hg.irr.pol D.qpol mf hg.mon e1
      have h3 := D.qlen
      have h4 := hg.irr.two
      have h5 := mf.1
      obtain ⟨k, f', t1, t2, t3, t4, t5⟩ := takeOut_is hP hg n (exp + 1) D.qpol mq (by omega)
      refine ⟨k + 1, f', by rw [t1, show exp + 1 + k = exp + (k + 1) by omega], t2, t3, ?_, t5⟩
      rw [hval, t4, pw_succ]; ac_rfl
    · rw [if_neg h]
      refine ⟨0, f, rfl, hf, mf, by rw [pw_zero, Px.one_mul], fun hd => h ?_⟩
      rw [(rem_nil_iff hP hf hg.irr.pol hg0).2 (dx_iff.1 hd)]; rfl

/-- Taken out of a product of irreducible polynomials. -/
theorem takeOut_prod (hP : M.Pr p) {g : List Nat} (hg : MIrr p g) {f : List Nat} {m : List (List Nat)} (hm : ∀ x ∈ m, MIrr p x) (hf : Pol p f) (mf : Mon f) (e : ev p f = ev p (prodL p m)) :
    ∃ f', takeOut p g (f.length + 1) 0 f = some (m.count g, f') ∧ Pol p f' ∧ Mon f' ∧ ev p f' = ev p (prodL p (m.filter fun x => x != g)) := by
  obtain ⟨k, f', t1, t2, t3, t4, t5⟩ := takeOut_is hP hg (f.length + 1) 0 hf mf (by omega)
  have hgp := IsP.ev hg.irr.pol
  have hg0 := ev_ne hP hg.irr.pol hg.irr.ne
  have e2 := count_out hP hg hm
  have hr := prodL_isP hP (filter_irr (g := g) hm)
  have h1 : k = m.count g := by
    have a1 : k ≤ m.count g := by
      refine pow_le hP hg.irr hr (filter_not hP hg hm) ?_
      rw [← e2, ← e, t4]
      exact ⟨ev p f', IsP.ev t2, Px.mul_comm _ _⟩
    have a2 : m.count g ≤ k := by
      refine pow_le hP hg.irr (IsP.ev t2) t5 ?_
      rw [← t4, e, e2]
      exact ⟨_, hr, Px.mul_comm _ _⟩
    omega
  subst h1
  refine ⟨f', by rw [t1, Nat.zero_add], t2, t3, ?_⟩
  refine cancelX hP (IsP.ev t2) hr (hgp.pw hP (m.count g)) (pw_ne0 hP hgp hg0 _) ?_
  rw [Px.mul_comm, ← t4, e, e2, Px.mul_comm]

theorem count_filter_ne {m : List (List Nat)} {g x : List Nat} (h : x ≠ g) : (m.filter fun y => y != g).count x = m.count x := by
  rw [List.count_filter (by simpa using h)]

theorem takeAll_is (hP : M.Pr p) (t : Nat) : ∀ (ps : List (List Nat)) {f : List Nat} {m : List (List Nat)}, ps.Nodup → (∀ x ∈ ps, MIrr p x) → (∀ x ∈ m, MIrr p x) → Pol p f → Mon f → ev p f = ev p (prodL p m) →
    ∃ f', takeAll p t ps f = some (ps.map fun g => (g, m.count g * t), f') ∧ Pol p f' ∧ Mon f' ∧ ev p f' = ev p (prodL p (m.filter fun x => !ps.contains x))
  | [], f, m, _, _, _, hf, mf, e => ⟨f, rfl, hf, mf, by rw [e, List.filter_eq_self.2 (by simp)]⟩
  | g :: ps, f, m, hn, hps, hm, hf, mf, e => by
    have hn1 := List.nodup_cons.1 hn
    obtain ⟨f1, t1, t2, t3, t4⟩ := takeOut_prod hP (hps g (by simp)) hm hf mf e
    obtain ⟨f', u1, u2, u3, u4⟩ := takeAll_is hP t ps hn1.2 (fun x hx => hps x (by simp [hx])) (filter_irr hm) t2 t3 t4
    refine ⟨f', ?_, u2, u3, ?_⟩
    · rw [takeAll, t1]
      simp only
      rw [u1]
      simp only [List.map_cons]
      congr 2
      congr 1
      refine List.map_congr_left fun x hx => ?_
      have hxg : x ≠ g := fun h => hn1.1 (h ▸ hx)
      rw [count_filter_ne hxg]
    · rw [u4, List.filter_filter]
      congr 2
      refine List.filter_congr fun x _ => ?_
      simp only [List.contains_cons, Bool.not_or]
      rw [Bool.and_comm]
      rfl

/-- A list of factors with exponents, of the irreducible polynomials in l, the exponents times t. -/
structure FacOk (t : Nat) (l : List (List Nat)) (L : List (List Nat × Nat)) : Prop where
  nodup : (L.map fun x => x.1).Nodup
  exp : ∀ x ∈ L, x.1 ∈ l ∧ x.2 = l.count x.1 * t
  all : ∀ g ∈ l, ∃ x ∈ L, x.1 = g

theorem mon_root (hP : M.Pr p) {f : List Nat} (hf : Pol p f) (mf : Mon f) (hd : (deriv p f).length = 0) : Mon (rootP p f) := by
  obtain ⟨_, _, h⟩ := root_is hP hf mf.1 hd
  exact ⟨by rw [rt_len]; exact Nat.succ_ne_zero _, by rw [h]; exact mf.2⟩

theorem count_root (hP : M.Pr p) {l k : List (List Nat)} (hl : ∀ x ∈ l, MIrr p x) (hk : ∀ x ∈ k, MIrr p x) {g : List Nat} (hg : MIrr p g) (e : ev p (prodL p l) = pw (ev p (prodL p k)) p) : l.count g = k.count g * p := by
  have hgp := IsP.ev hg.irr.pol
  have hr := prodL_isP hP (filter_irr (g := g) hk)
  have hr2 := prodL_isP hP (filter_irr (g := g) hl)
  have e1 : ev p (prodL p l) = pw (ev p g) (k.count g * p) * pw (ev p (prodL p (k.filter fun x => x != g))) p := by
    rw [e, count_out hP hg hk, pw_mul, pw_pw]
  have hnp : ∀ n, ¬ DX p g (pw (ev p (prodL p (k.filter fun x => x != g))) n) := by
    intro n
    induction n with
    | zero => exact hg.irr.notOne hP
    | succ n ih =>
      intro h
      rw [pw_succ] at h
      rcases hg.irr.primeX hP (hr.pw hP n) hr h with h1 | h1
      · exact ih h1
      · exact filter_not hP hg hk h1
  have a1 : l.count g ≤ k.count g * p := by
    refine pow_le hP hg.irr (hr.pw hP p) (hnp p) ?_
    rw [← e1]
    exact (count_ge hP hg hl).2 (Nat.le_refl _)
  have a2 : k.count g * p ≤ l.count g := by
    refine (count_ge hP hg hl).1 ?_
    rw [e1]
    exact ⟨_, hr.pw hP p, Px.mul_comm _ _⟩
  omega

/-- The polynomial without repeated factors that the next round splits. -/
theorem simple_is (hP : M.Pr p) {f : List Nat} {l : List (List Nat)} (hf : Pol p f) (mf : Mon f) (hl : ∀ x ∈ l, MIrr p x) (e : ev p f = ev p (prodL p l)) (hd : (deriv p f).length ≠ 0) :
    ∃ k, Sqf p (divP p f (gcdP p f (deriv p f))).1 k ∧ Mon (divP p f (gcdP p f (deriv p f))).1 ∧ ev p (divP p f (gcdP p f (deriv p f))).1 = ev p (prodL p k) ∧ (∀ g, MIrr p g → (g ∈ k ↔ ¬ p ∣ l.count g)) := by
  have hp2 := hP.1
  have hp : 0 < p := by omega
  have hdp := drv_pol hp f
  have G := gcdP_is hP hf hdp
  have h0 := mf.1
  have hne : gcdP p f (deriv p f) ≠ [] := fun h => by have := (G.zero.1 h).1; rw [this] at h0; simp at h0
  have mG := G.mon.resolve_left hne
  have D := div_is hP hf G.pol mG.1
  have hval := D.val
  rw [(rem_nil_iff hP hf G.pol mG.1).2 G.left, ev_nil, Px.add_zero] at hval
  have e1 := eq_prod hP hf D.qpol G.pol hval
  have mQ := mon_cofactor hP G.pol D.qpol mf mG e1
  obtain ⟨E, hE, eE⟩ := exists_fac hP _ (Nat.le_refl _) G.pol mG
  obtain ⟨k, hk, ek⟩ := exists_fac hP _ (Nat.le_refl _) D.qpol mQ
  have hpm : (k ++ E).Perm l := by
    refine fac_perm hP (fun x hx => (List.mem_append.1 hx).elim (hk x) (hE x)) hl ?_
    rw [ev_prodL_append, ← ek, ← eE, ← e, hval]
  have hcnt : ∀ g, MIrr p g → k.count g = if p ∣ l.count g then 0 else 1 := fun g hg => by
    have h1 := count_gcd hP hf hg hl hE (c := 1) (by omega) (by omega) (by rw [ev_one, Px.one_mul]; exact e) eE
    have h2 := hpm.count_eq g
    rw [List.count_append] at h2
    split at h1
    · next h => rw [if_pos h]; omega
    · next h =>
      rw [if_neg h]
      have : l.count g ≠ 0 := fun h3 => h ⟨0, by omega⟩
      omega
  have hkn : k.Nodup := by
    rw [List.nodup_iff_count]
    intro g
    by_cases hg : g ∈ k
    · have := hcnt g (hk g hg)
      split at this <;> omega
    · rw [List.count_eq_zero_of_not_mem hg]; omega
  have hmem : ∀ g, MIrr p g → (g ∈ k ↔ ¬ p ∣ l.count g) := fun g hg => by
    have h1 := hcnt g hg
    constructor
    · intro hgk h2
      rw [if_pos h2] at h1
      exact absurd hgk (List.count_eq_zero.1 h1)
    · intro h2
      rw [if_neg h2] at h1
      exact List.count_pos_iff.1 (by omega)
  refine ⟨k, ⟨hkn, hk, D.qpol, ?_, 1, by omega, by omega, by rw [ev_one, Px.one_mul]; exact ek⟩, mQ, ek, hmem⟩
  refine Classical.byContradiction fun hlen => hd ?_
  have h1 : (divP p f (gcdP p f (deriv p f))).1 = [1] := mon_len1 mQ (by have := mQ.1; omega)
  have hG : ev p f = ev p (gcdP p f (deriv p f)) := by rw [hval, h1, ev_one, Px.one_mul]
  have h2 : Dv p f (deriv p f) := by
    have h3 := G.right
    rw [← ev_inj hp hf G.pol hG] at h3
    exact h3
  refine Classical.byContradiction fun h3 => ?_
  have h4 := (h2.len hP hf hdp h3).1
  have h5 := deriv_len (p := p) f
  omega

theorem FacOk.root (hP : M.Pr p) {l k : List (List Nat)} (hl : ∀ x ∈ l, MIrr p x) (hk : ∀ x ∈ k, MIrr p x) (e : ev p (prodL p l) = pw (ev p (prodL p k)) p) {t : Nat} {L : List (List Nat × Nat)} (h : FacOk (t * p) k L) : FacOk t l L := by
  have hp : 0 < p := by have := hP.1; omega
  have hc : ∀ g, MIrr p g → l.count g = k.count g * p := fun g hg => count_root hP hl hk hg e
  refine ⟨h.nodup, fun x hx => ?_, fun g hg => h.all g ?_⟩
  · obtain ⟨h1, h2⟩ := h.exp x hx
    have h3 := hc x.1 (hk _ h1)
    have h4 := List.count_pos_iff.2 h1
    refine ⟨List.count_pos_iff.1 ?_, ?_⟩
    · rw [h3]; exact Nat.mul_pos h4 hp
    · rw [h2, h3, Nat.mul_assoc, Nat.mul_comm p t]
  · have h3 := hc g (hl g hg)
    have h4 := List.count_pos_iff.2 hg
    refine List.count_pos_iff.1 (Nat.pos_of_ne_zero fun h0 => ?_)
    rw [h0, Nat.zero_mul] at h3; omega

theorem factLoop_is (hP : M.Pr p) : ∀ (n t : Nat) {f : List Nat} {l : List (List Nat)}, Pol p f → Mon f → f.length ≤ n → (∀ x ∈ l, MIrr p x) → ev p f = ev p (prodL p l) → ∃ L, factLoop p n t f = some L ∧ FacOk t l L
  | 0, t, f, l, hf, mf, hn, _, _ => by have := mf.1; omega
  | n + 1, t, f, l, hf, mf, hn, hl, e => by
    have hp2 := hP.1
    have hp : 0 < p := by omega
    have hm1 := mf.1
    rw [factLoop]
    by_cases h1 : f.length ≤ 1
    · rw [if_pos h1]
      have hf1 : f = [1] := mon_len1 mf (by omega)
      have hlnil : l = [] := by
        cases l with
        | nil => rfl
        | cons g r =>
          exfalso
          have h3 : Dv p g [1] := by
            rw [← dx_iff, ← hf1, e, dx_iff]
            exact dv_prodL_mem hP (fun x hx => (hl x hx).irr.pol) (by simp)
          have := dv_one hP (hl g (by simp)).irr.pol h3
          have := (hl g (by simp)).irr.two
          omega
      subst hlnil
      exact ⟨[], rfl, by simp, by simp, by simp⟩
    · rw [if_neg h1]
      by_cases hd : (deriv p f).length = 0
      · rw [if_pos hd]
        obtain ⟨r1, r2, _⟩ := root_is hP hf mf.1 hd
        have rm := mon_root hP hf mf hd
        obtain ⟨k, hk, ek⟩ := exists_fac hP _ (Nat.le_refl _) r1 rm
        have hrl : (rootP p f).length ≤ n := by
          rw [rt_len]
          have h4 : (f.length - 1) / p ≤ (f.length - 1) / 2 := Nat.div_le_div_left hp2 (by omega)
          omega
        obtain ⟨L, hL, hF⟩ := factLoop_is hP n (t * p) r1 rm hrl hk ek
        exact ⟨L, hL, FacOk.root hP hl hk (by rw [← e, r2, ek]) hF⟩
      · rw [if_neg hd]
        obtain ⟨k, S, mS, eS, hmem⟩ := simple_is hP hf mf hl e hd
        have hpm := splitP_perm hP S mS eS
        obtain ⟨ps, hps⟩ : ∃ ps, ps = splitP p (divP p f (gcdP p f (deriv p f))).1 := ⟨_, rfl⟩
        rw [← hps] at hpm ⊢
        have hpn : ps.Nodup := hpm.nodup_iff.2 S.nodup
        have hpi : ∀ x ∈ ps, MIrr p x := fun x hx => S.irr x (hpm.mem_iff.1 hx)
        obtain ⟨f', t1, t2, t3, t4⟩ := takeAll_is hP t ps hpn hpi hl hf mf e
        rw [t1]
        simp only
        have hl' : ∀ x ∈ l.filter (fun x => !ps.contains x), MIrr p x := fun x hx => hl x (List.mem_filter.1 hx).1
        -- the rest is shorter: something was taken out
        have hcl : ∀ x, x ∈ ps → x ∈ l := fun x hx => by
          have := (hmem x (hpi x hx)).1 (hpm.mem_iff.1 hx)
          exact List.count_pos_iff.1 (Nat.pos_of_ne_zero fun h0 => this ⟨0, by omega⟩)
        have hlen : f'.length ≤ n := by
          have hdv : DX p f' (ev p f) := by
            have hsplit : ev p (prodL p l) = ev p (prodL p (l.filter fun x => ps.contains x)) * ev p (prodL p (l.filter fun x => !ps.contains x)) := by
              rw [← ev_prodL_append]
              exact ev_prodL_perm (List.filter_append_perm _ l).symm
            exact ⟨_, prodL_isP hP (l := l.filter fun x => ps.contains x) (fun x hx => hl x (List.mem_filter.1 hx).1), by rw [e, hsplit, t4]⟩
          have h5 := ((dx_iff.1 hdv).len hP t2 hf mf.1).1
          refine Classical.byContradiction fun h6 => ?_
          have h7 : f'.length = f.length := by omega
          have h8 := mon_unique hP t2 hf t3 mf (dx_iff.1 hdv) (Dv.back hP t2 hf mf.1 h7 (dx_iff.1 hdv))
          have h9 : 0 < ps.length := by
            rw [hpm.length_eq]
            refine List.length_pos_iff.2 fun h => ?_
            have := S.two
            rw [h] at eS
            rw [ev_inj hp S.pol (pol_one hP) eS] at this
            simp at this
          obtain ⟨g, hg⟩ := List.length_pos_iff_exists_mem.1 h9
          have hperm := fac_perm hP hl' hl (by rw [← t4, ← e, h8])
          have := hperm.mem_iff.2 (hcl g hg)
          have := (List.mem_filter.1 this).2
          simp [hg] at this
        obtain ⟨L2, hL2, hF⟩ := factLoop_is hP n t t2 t3 hlen hl' t4
        rw [hL2]
        refine ⟨_, rfl, ?_, fun x hx => ?_, fun g hg => ?_⟩
        · rw [List.map_append, List.map_map]
          refine List.nodup_append.2 ⟨?_, hF.nodup, fun a ha b hb hab => ?_⟩
          · exact (List.map_id ps).symm ▸ hpn
          · subst hab
            obtain ⟨g, hg, rfl⟩ := List.mem_map.1 ha
            obtain ⟨x, hx, hxe⟩ := List.mem_map.1 hb
            have h3 := (hF.exp x hx).1
            rw [hxe] at h3
            have h4 := (List.mem_filter.1 h3).2
            simp only [Function.comp_apply] at h4
            simp [hg] at h4
        · rcases List.mem_append.1 hx with h | h
          · obtain ⟨g, hg, rfl⟩ := List.mem_map.1 h
            exact ⟨hcl g hg, rfl⟩
          · obtain ⟨h3, h4⟩ := hF.exp x h
            have h5 := List.mem_filter.1 h3
            refine ⟨h5.1, ?_⟩
            rw [h4, List.count_filter (p := fun x => !ps.contains x) h5.2]
        · by_cases hgp : g ∈ ps
          · exact ⟨(g, l.count g * t), List.mem_append.2 (.inl (List.mem_map.2 ⟨g, hgp, rfl⟩)), rfl⟩
          · obtain ⟨x, hx, hxe⟩ := hF.all g (List.mem_filter.2 ⟨hg, by simpa using hgp⟩)
            exact ⟨x, List.mem_append.2 (.inr hx), hxe⟩

/-! ### Irreducible -/
theorem lastC (hP : M.Pr p) {f : List Nat} (hf : Pol p f) (h0 : f.length ≠ 0) : ∃ c, c = f.getD (f.length - 1) 0 ∧ c < p ∧ c ≠ 0 ∧ ev p f = ev p [c] * ev p (monicP p f) := by
  obtain ⟨d, hd, hdp, hd0, hdc⟩ := monicC_pol hP hf h0
  have hm := monic_is hP hf h0
  refine ⟨_, rfl, hf.red.getD (by have := hP.1; omega) _, hf.ne h0, ?_⟩
  rw [hm.2.2.2.1, hd, show ev p [f.getD (f.length - 1) 0] * (ev p f * ev p [d]) = ev p [f.getD (f.length - 1) 0] * ev p [d] * ev p f by ac_rfl, ev_const_mul _ _ hdc, Px.one_mul]

theorem free_len (f : List Nat) : (fixedP p f).length = (freeL p (fixedMat p f)).length := by rw [fixedP_eq, List.length_map]

theorem irr_true (hP : M.Pr p) {f : List Nat} (hf : Pol p f) (h : irredP p f = true) : Irr p f := by
  have hp2 := hP.1
  have hp : 0 < p := by omega
  unfold irredP at h
  split at h
  · cases h
  · next hc =>
    rw [beq_iff_eq] at h
    have h2 : 2 ≤ f.length := by omega
    have hdp := drv_pol hp f
    have G := gcdP_is hP hf hdp
    have hne : gcdP p f (deriv p f) ≠ [] := fun h => by have := (G.zero.1 h).1; rw [this] at h2; simp at h2
    have mG := G.mon.resolve_left hne
    have hG1 : gcdP p f (deriv p f) = [1] := mon_len1 mG (by have := mG.1; omega)
    obtain ⟨c, _, hcp, hc0, ec⟩ := lastC hP hf (by omega)
    have hm := monic_is hP hf (by omega)
    obtain ⟨l, hl, el⟩ := exists_fac hP _ (Nat.le_refl _) hm.1 hm.2.1
    rw [el] at ec
    have hln : l.Nodup := by
      rw [List.nodup_iff_count]
      intro g
      by_cases hg : g ∈ l
      · have h3 := count_gcd hP hf (hl g hg) hl (E := []) (by simp) hcp hc0 ec (by rw [hG1]; rfl)
        rw [List.count_nil] at h3
        split at h3
        · have := List.count_pos_iff.2 hg; omega
        · omega
      · rw [List.count_eq_zero_of_not_mem hg]; omega
    have S : Sqf p f l := ⟨hln, hl, hf, h2, c, hcp, hc0, ec⟩
    have h3 := S.count hP
    rw [h] at h3
    match l, h3 with
    | [], _ =>
      exfalso
      have e1 := ev_inj hp hm.1 (pol_one hP) el
      have := hm.2.2.1
      rw [e1] at this
      simp at this
      omega
    | [g], _ =>
      have hg := hl g (by simp)
      have e1 : ev p (monicP p f) = ev p g := by rw [el, ev_prodL_cons, show ev p (prodL p []) = 1 from ev_one, Px.mul_one]
      have e2 := ev_inj hp hm.1 hg.irr.pol e1
      refine ⟨hf, h2, fun d hd hdv => ?_⟩
      rw [← hm.2.2.1, e2]
      refine hg.irr.dv d hd ?_
      rw [← e2]
      obtain ⟨q, hq, eq⟩ := hdv
      rw [← dx_iff, hm.2.2.2.1, eq]
      exact ⟨ev p q * ev p (monicC p f), (IsP.ev hq).mul hP (by obtain ⟨d, h, _⟩ := monicC_pol hP hf (by omega); rw [h]; exact IsP.const hp d), by ac_rfl⟩

theorem irr_false (hP : M.Pr p) {f : List Nat} (h : Irr p f) : irredP p f = true := by
  have hp2 := hP.1
  have hp : 0 < p := by omega
  have hf := h.pol
  have h2 := h.two
  have hdp := drv_pol hp f
  have hg : gcdP p f (deriv p f) = [1] := (h.gcd hP hdp).resolve_left fun hd => by
    have h1 := (hd.len hP hf hdp (h.deriv hP)).1
    have h3 := deriv_len (p := p) f
    omega
  unfold irredP
  rw [if_neg (by rw [hg]; simp; omega), beq_iff_eq, free_len]
  have h0 := (free_zero hP hf h2).1
  have K := fixed_kernel hP hf h2
  have hall : ∀ j ∈ freeL p (fixedMat p f), j = 0 := fun j hj => by
    have B := bas_pol hP h2 j
    obtain ⟨s, hs, hc⟩ := fixed_const hP h (Dv.refl (by omega) f) B.1 (bas_fx hP hf h2 hj)
    rw [← ev_trim [s]] at hc
    have l1 := trim1_len s
    have e1 := low_cg hP B.1 (pol_trim1 hp s hs) hf B.2 (by omega) hc
    have e2 := (K.free j hj).2 j hj
    rw [if_pos rfl] at e2
    have e3 : (basP p f j).getD j 0 = 1 := by unfold basP; rw [trim_getD]; exact e2
    refine Classical.byContradiction fun hj0 => ?_
    rw [e1, trim_getD] at e3
    rw [getD_out (by simp; omega)] at e3
    omega
  have hle := inj_len (fun j : Nat => j) (freeL p (fixedMat p f)) [0] (freeL_nodup _) (fun _ _ _ _ e => e) fun j hj => by simp [hall j hj]
  have hge := List.length_pos_of_mem h0
  simp at hle
  omega

theorem irr_iff (hP : M.Pr p) {f : List Nat} (hf : Pol p f) : irredP p f = true ↔ Irr p f := ⟨irr_true hP hf, irr_false hP⟩

end Q
end Go.Proofs.YtbehihanhfmmhaaGreat

namespace Go.Proofs.YtbehihanhfmmhaaGreat
namespace Q
variable {p : Nat}

def evE (p : Nat) : List (List Nat × Nat) → Px p
  | [] => 1
  | x :: L => pw (ev p x.1) x.2 * evE p L
theorem fac_evE (hP : M.Pr p) : ∀ (L : List (List Nat × Nat)) {l : List (List Nat)}, (∀ x ∈ l, MIrr p x) → FacOk 1 l L → ev p (prodL p l) = evE p L
  | [], l, hl, h => by
    have : l = [] := by
      cases l with
      | nil => rfl
      | cons g r => obtain ⟨x, hx, _⟩ := h.all g (by simp); simp at hx
    subst this
    exact ev_one
  | x :: L, l, hl, h => by
    have hx := h.exp x (by simp)
    have hg := hl _ hx.1
    have hn := h.nodup
    rw [List.map_cons] at hn
    have hn1 := List.nodup_cons.1 hn
    rw [count_out hP hg hl, evE, hx.2, Nat.mul_one]
    congr 1
    refine fac_evE hP L (filter_irr hl) ⟨hn1.2, fun y hy => ?_, fun g hg2 => ?_⟩
    · have hy1 := h.exp y (by simp [hy])
      have hne : y.1 ≠ x.1 := fun e => hn1.1 (e ▸ List.mem_map.2 ⟨y, hy, rfl⟩)
      exact ⟨List.mem_filter.2 ⟨hy1.1, by simpa using hne⟩, by rw [hy1.2, count_filter_ne hne]⟩
    · have h2 := List.mem_filter.1 hg2
      obtain ⟨y, hy, hye⟩ := h.all g h2.1
      rcases List.mem_cons.1 hy with rfl | hy
      · have := h2.2; simp [hye] at this
      · exact ⟨y, hy, hye⟩

theorem FacOk.perm {t : Nat} {l : List (List Nat)} {L L' : List (List Nat × Nat)} (h : FacOk t l L) (hp : L'.Perm L) : FacOk t l L' :=
  ⟨(hp.map _).nodup_iff.2 h.nodup, fun x hx => h.exp x (hp.mem_iff.1 hx), fun g hg => by obtain ⟨x, hx, e⟩ := h.all g hg; exact ⟨x, hp.mem_iff.2 hx, e⟩⟩

/-! ### Exponents -/
def expE (L : List (List Nat × Nat)) (g : List Nat) : Nat := (L.map fun x => if x.1 = g then x.2 else 0).sum
theorem expE_take (L : List (List Nat × Nat)) (g : List Nat) (k : Nat) (h : k < L.length) : expE (L.take (k + 1)) g = expE (L.take k) g + if L[k].1 = g then L[k].2 else 0 := by
  unfold expE
  rw [List.take_succ_eq_append_getElem h, List.map_append, List.sum_append]; simp
theorem expE_not {L : List (List Nat × Nat)} {g : List Nat} (h : ∀ x ∈ L, x.1 ≠ g) : expE L g = 0 := by
  induction L with
  | nil => rfl
  | cons x L ih =>
    unfold expE at ih ⊢
    rw [List.map_cons, List.sum_cons, ih fun y hy => h y (by simp [hy]), if_neg (h x (by simp))]
theorem expE_mem {L : List (List Nat × Nat)} (hn : (L.map fun x => x.1).Nodup) {x : List Nat × Nat} (hx : x ∈ L) : expE L x.1 = x.2 := by
  induction L with
  | nil => simp at hx
  | cons y L ih =>
    rw [List.map_cons] at hn
    have hn1 := List.nodup_cons.1 hn
    unfold expE
    rw [List.map_cons, List.sum_cons]
    rcases List.mem_cons.1 hx with rfl | hx
    · rw [if_pos rfl]
      have := expE_not (L := L) (g := x.1) fun z hz e => hn1.1 (e ▸ List.mem_map.2 ⟨z, hz, rfl⟩)
      unfold expE at this; rw [this]; rfl
    · rw [if_neg fun e : y.1 = x.1 => hn1.1 (by rw [e]; exact List.mem_map.2 ⟨x, hx, rfl⟩)]
      have := ih hn1.2 hx
      unfold expE at this; rw [this, Nat.zero_add]
theorem expE_fac {l : List (List Nat)} {L : List (List Nat × Nat)} (h : FacOk 1 l L) (g : List Nat) : expE L g = l.count g := by
  by_cases hg : g ∈ l
  · obtain ⟨x, hx, rfl⟩ := h.all g hg
    rw [expE_mem h.nodup hx, (h.exp x hx).2, Nat.mul_one]
  · rw [List.count_eq_zero_of_not_mem hg]
    exact expE_not fun x hx e => hg (by have := (h.exp x hx).1; rw [e] at this; exact this)
theorem expE_le {L : List (List Nat × Nat)} (g : List Nat) (k : Nat) : expE (L.take k) g ≤ expE L g := by
  have : expE L g = expE (L.take k) g + expE (L.drop k) g := by
    unfold expE
    rw [← List.sum_append, ← List.map_append, List.take_append_drop]
  omega

/-! ### Multiplied together -/
def powM (p : Nat) (out g : List Nat) : Nat → List Nat
  | 0 => out
  | e + 1 => prodP' p (powM p out g e) g
def accP (p : Nat) : List Nat → List (List Nat × Nat) → List Nat
  | out, [] => out
  | out, x :: L => accP p (powM p out x.1 x.2) L
def dgE (L : List (List Nat × Nat)) : Nat := (L.map fun x => x.2 * (x.1.length - 1)).sum

theorem accP_append : ∀ (L : List (List Nat × Nat)) (K : List (List Nat × Nat)) (out : List Nat), accP p out (L ++ K) = accP p (accP p out L) K
  | [], _, _ => rfl
  | x :: L, K, out => accP_append L K (powM p out x.1 x.2)
theorem accP_take (L : List (List Nat × Nat)) (out : List Nat) (k : Nat) (h : k < L.length) : accP p out (L.take (k + 1)) = powM p (accP p out (L.take k)) L[k].1 L[k].2 := by
  rw [List.take_succ_eq_append_getElem h, accP_append]; rfl
theorem dgE_take (L : List (List Nat × Nat)) (k : Nat) (h : k < L.length) : dgE L = dgE (L.take k) + L[k].2 * (L[k].1.length - 1) + dgE (L.drop (k + 1)) := by
  have h2 : L.drop k = L[k] :: L.drop (k + 1) := List.drop_eq_getElem_cons h
  unfold dgE
  have h3 : L.map (fun x => x.2 * (x.1.length - 1)) = (L.take k).map (fun x => x.2 * (x.1.length - 1)) ++ (L.drop k).map (fun x => x.2 * (x.1.length - 1)) := by rw [← List.map_append, List.take_append_drop]
  rw [h3, List.sum_append, h2, List.map_cons, List.sum_cons, Nat.add_assoc]

theorem powM_is (hP : M.Pr p) {out g : List Nat} (ho : Pol p out) (h0 : out.length ≠ 0) (hg : MIrr p g) : ∀ e, Pol p (powM p out g e) ∧ (powM p out g e).length = out.length + e * (g.length - 1) ∧ ev p (powM p out g e) = ev p out * pw (ev p g) e
  | 0 => ⟨ho, by rw [powM]; omega, by rw [powM, pw_zero, Px.mul_one]⟩
  | e + 1 => by
    obtain ⟨i1, i2, i3⟩ := powM_is hP ho h0 hg e
    have h2 := hg.irr.two
    refine ⟨pol_prod hP i1 hg.irr.pol, ?_, ?_⟩
    · rw [powM, prod_length (by omega) (by omega), i2, Nat.succ_mul]; omega
    · rw [powM, ev_prod, i3, pw_succ]; ac_rfl

theorem accP_is (hP : M.Pr p) : ∀ (L : List (List Nat × Nat)) {out : List Nat}, Pol p out → out.length ≠ 0 → (∀ x ∈ L, MIrr p x.1) → Pol p (accP p out L) ∧ (accP p out L).length = out.length + dgE L ∧ ev p (accP p out L) = ev p out * evE p L
  | [], out, ho, h0, _ => ⟨ho, rfl, by rw [evE, Px.mul_one]; rfl⟩
  | x :: L, out, ho, h0, hL => by
    obtain ⟨j1, j2, j3⟩ := powM_is hP ho h0 (hL x (by simp)) x.2
    obtain ⟨i1, i2, i3⟩ := accP_is hP L j1 (by omega) fun y hy => hL y (by simp [hy])
    refine ⟨i1, ?_, ?_⟩
    · show (accP p (powM p out x.1 x.2) L).length = _
      rw [i2, j2]
      unfold dgE
      rw [List.map_cons, List.sum_cons]; omega
    · show ev p (accP p (powM p out x.1 x.2) L) = _
      rw [i3, j3, evE]; ac_rfl

theorem ordP_swap : ∀ f g : List Nat, ordP g f = - ordP f g
  | [], [] => rfl
  | [], _ :: _ => rfl
  | _ :: _, [] => rfl
  | a :: f, b :: g => by
    rw [ordP, ordP, ordP_swap f g]
    by_cases h : ordP f g = 0
    · simp only [h, Int.neg_zero, if_true]
      split
      · next h1 => rw [if_neg (by omega)]
      · next h1 =>
        split
        · rfl
        · rfl
    · simp only [h, if_false, Int.neg_eq_zero]
theorem ordP_zero : ∀ f g : List Nat, ordP f g = 0 → f = g
  | [], [], _ => rfl
  | [], _ :: _, h => by simp [ordP] at h
  | _ :: _, [], h => by simp [ordP] at h
  | a :: f, b :: g, h => by
    rw [ordP] at h
    by_cases h1 : ordP f g = 0
    · simp only [h1, if_true] at h
      split at h
      · cases h
      · split at h
        · cases h
        · rw [ordP_zero f g h1, show a = b by omega]
    · simp only [h1, if_false] at h

/-- What is known of the factors of F, in their order. -/
structure FacL (p : Nat) (F : List Nat) (L : List (List Nat × Nat)) (l : List (List Nat)) : Prop where
  irr : ∀ x ∈ l, MIrr p x
  ok : FacOk 1 l L
  val : ev p F = ev p [F.getD (F.length - 1) 0] * ev p (prodL p l)
  asc : ∀ i (h : i + 1 < L.length), ordP (L[i]'(by omega)).1 (L[i + 1]).1 < 0

theorem facL_of (hP : M.Pr p) {F : List Nat} (hF : Pol p F) (h0 : F.length ≠ 0) (hl : F.length ≤ 34) {fin L : List (List Nat × Nat)} (hfin : factLoop p 34 1 (monicP p F) = some fin) (hperm : L.Perm fin) (hs : L.Pairwise fun a b => ¬ ordP b.1 a.1 < 0) : ∃ l, FacL p F L l := by
  have hm := monic_is hP hF h0
  obtain ⟨l, hli, el⟩ := exists_fac hP _ (Nat.le_refl _) hm.1 hm.2.1
  obtain ⟨fin', h1, h2⟩ := factLoop_is hP 34 1 hm.1 hm.2.1 (by rw [hm.2.2.1]; exact hl) hli el
  rw [hfin] at h1
  injection h1 with h1
  subst h1
  have ok := h2.perm hperm
  obtain ⟨c, hc, _, _, ec⟩ := lastC hP hF h0
  refine ⟨l, hli, ok, by rw [← hc, ec, el], fun i h => ?_⟩
  have h3 := List.pairwise_iff_getElem.1 hs i (i + 1) (by omega) h (by omega)
  have h4 := ordP_swap (L[i]'(by omega)).1 (L[i + 1]).1
  have h5 : ordP (L[i]'(by omega)).1 (L[i + 1]).1 ≠ 0 := fun e => by
    have h6 := ordP_zero _ _ e
    have h7 := List.pairwise_iff_getElem.1 ok.nodup i (i + 1) (by simp; omega) (by simp; omega) (by omega)
    simp only [List.getElem_map] at h7
    exact h7 h6
  omega

theorem FacL.mem {F : List Nat} {L : List (List Nat × Nat)} {l : List (List Nat)} (h : FacL p F L l) : ∀ x ∈ L, MIrr p x.1 ∧ 1 ≤ x.2 := fun x hx => by
  obtain ⟨h1, h2⟩ := h.ok.exp x hx
  have := List.count_pos_iff.2 h1
  exact ⟨h.irr _ h1, by omega⟩

/-- Multiplied together again they are F. -/
theorem FacL.acc (hP : M.Pr p) {F : List Nat} (hF : Pol p F) (h0 : F.length ≠ 0) {L : List (List Nat × Nat)} {l : List (List Nat)} (h : FacL p F L l) : accP p [F.getD (F.length - 1) 0] L = F ∧ F.length = 1 + dgE L := by
  have hc := hF.red.getD (by have := hP.1; omega) (F.length - 1)
  have hc0 := hF.ne h0
  obtain ⟨a1, a2, a3⟩ := accP_is hP L (pol_const hc hc0) (by simp) fun x hx => (h.mem x hx).1
  have e : accP p [F.getD (F.length - 1) 0] L = F := ev_inj (by have := hP.1; omega) a1 hF (by rw [a3, h.val, fac_evE hP L h.irr h.ok])
  refine ⟨e, ?_⟩
  rw [e] at a2
  simpa using a2

theorem FacL.part (hP : M.Pr p) {F : List Nat} (hF : Pol p F) (h0 : F.length ≠ 0) {L : List (List Nat × Nat)} {l : List (List Nat)} (h : FacL p F L l) (i : Nat) (hi : i < L.length) (k : Nat) (hk : k ≤ L[i].2) :
    Pol p (powM p (accP p [F.getD (F.length - 1) 0] (L.take i)) L[i].1 k) ∧ (powM p (accP p [F.getD (F.length - 1) 0] (L.take i)) L[i].1 k).length ≤ F.length ∧ (powM p (accP p [F.getD (F.length - 1) 0] (L.take i)) L[i].1 k).length ≠ 0 := by
  have hc := hF.red.getD (by have := hP.1; omega) (F.length - 1)
  have hc0 := hF.ne h0
  obtain ⟨a1, a2, _⟩ := accP_is hP (L.take i) (pol_const hc hc0) (by simp) fun x hx => (h.mem x (List.mem_of_mem_take hx)).1
  obtain ⟨b1, b2, _⟩ := powM_is hP a1 (by rw [a2]; simp) (h.mem _ (List.getElem_mem hi)).1 k
  have h1 := (h.acc hP hF h0).2
  have h2 := dgE_take L i hi
  have h3 : k * (L[i].1.length - 1) ≤ L[i].2 * (L[i].1.length - 1) := Nat.mul_le_mul_right _ hk
  rw [a2] at b2
  simp only [List.length_singleton] at b2
  exact ⟨b1, by omega, by omega⟩

theorem FacL.small (hP : M.Pr p) {F : List Nat} (hF : Pol p F) (h0 : F.length ≠ 0) {L : List (List Nat × Nat)} {l : List (List Nat)} (h : FacL p F L l) (i : Nat) (hi : i < L.length) : L[i].2 ≤ F.length ∧ L[i].1.length ≤ F.length := by
  have h1 := (h.acc hP hF h0).2
  have h2 := dgE_take L i hi
  have h3 := h.mem _ (List.getElem_mem hi)
  have h4 := h3.1.irr.two
  have h5 : L[i].2 * 1 ≤ L[i].2 * (L[i].1.length - 1) := Nat.mul_le_mul_left _ (by omega)
  have h6 : 1 * (L[i].1.length - 1) ≤ L[i].2 * (L[i].1.length - 1) := Nat.mul_le_mul_right _ h3.2
  omega

theorem FacL.len (hP : M.Pr p) {F : List Nat} (hF : Pol p F) (h0 : F.length ≠ 0) {L : List (List Nat × Nat)} {l : List (List Nat)} (h : FacL p F L l) : L.length ≤ F.length := by
  have h1 := (h.acc hP hF h0).2
  have : ∀ K : List (List Nat × Nat), (∀ x ∈ K, MIrr p x.1 ∧ 1 ≤ x.2) → K.length ≤ dgE K := by
    intro K hK
    induction K with
    | nil => simp
    | cons x K ih =>
      have h3 := hK x (by simp)
      have h4 := h3.1.irr.two
      have h5 : 1 * 1 ≤ x.2 * (x.1.length - 1) := Nat.mul_le_mul h3.2 (by omega)
      have := ih fun y hy => hK y (by simp [hy])
      unfold dgE at this ⊢
      rw [List.map_cons, List.sum_cons, List.length_cons]; omega
  have := this L h.mem
  omega

/-- The last coefficient of a product. -/
theorem prod_lastC {F G : List Nat} (hf : F.length ≠ 0) (hg : G.length ≠ 0) : (prodP' p F G).getD ((prodP' p F G).length - 1) 0 = F.getD (F.length - 1) 0 * G.getD (G.length - 1) 0 % p := by
  have h1 := prod_len (p := p) hf hg
  have h2 := prod_getD p F G (F.length + G.length - 2)
  rw [cau_top hf hg] at h2
  unfold cf at h2
  rw [show (prodP' p F G).length - 1 = F.length + G.length - 2 by omega]
  exact_mod_cast h2

/-- The exponents of a product are the sums of those of both factors. -/
theorem exp_sum (hP : M.Pr p) {F G : List Nat} (hF : Pol p F) (hG : Pol p G) (hf : F.length ≠ 0) (hg : G.length ≠ 0) {L K N : List (List Nat × Nat)} {l k n : List (List Nat)} (hL : FacL p F L l) (hK : FacL p G K k) (hN : FacL p (prodP' p F G) N n) (g : List Nat) : expE N g = expE L g + expE K g := by
  have hp : 0 < p := by have := hP.1; omega
  rw [expE_fac hL.ok, expE_fac hK.ok, expE_fac hN.ok, ← List.count_append]
  refine List.Perm.count_eq ?_ g
  have hlk : ∀ x ∈ l ++ k, MIrr p x := fun x hx => (List.mem_append.1 hx).elim (hL.irr x) (hK.irr x)
  refine fac_perm hP hN.irr hlk ?_
  have e := hN.val
  rw [ev_prod, hL.val, hK.val, prod_lastC hf hg, ← ev_const_congr (c := F.getD (F.length - 1) 0 * G.getD (G.length - 1) 0) (d := F.getD (F.length - 1) 0 * G.getD (G.length - 1) 0 % p) (by simp), ← ev_const_mul'] at e
  rw [ev_prodL_append]
  have hcf := IsP.const (p := p) hp (F.getD (F.length - 1) 0)
  have hcg := IsP.const (p := p) hp (G.getD (G.length - 1) 0)
  have n1 : ev p [F.getD (F.length - 1) 0] ≠ 0 := ev_ne hP (pol_const (hF.red.getD hp _) (hF.ne hf)) (by simp)
  have n2 : ev p [G.getD (G.length - 1) 0] ≠ 0 := ev_ne hP (pol_const (hG.red.getD hp _) (hG.ne hg)) (by simp)
  refine cancelX hP (prodL_isP hP hN.irr) ((prodL_isP hP hL.irr).mul hP (prodL_isP hP hK.irr)) (hcf.mul hP hcg) (mul_ne0 hP hcf hcg n1 n2) ?_
  rw [Px.mul_comm, ← e]; ac_rfl

end Q
end Go.Proofs.YtbehihanhfmmhaaGreat

namespace Go.Proofs.YtbehihanhfmmhaaGreat
open Go.RowKit

set_option maxRecDepth 100000 in
set_option maxHeartbeats 1000000 in
theorem Factor_arg (p : Int) (Z : List Int) (v : Value) (w : World) (h1 : Hid (Rd w v 1 Z.length (zs Z))) (hl1 : Z.length ≤ 100000) (hn : Hid (¬ Args1 p Z)) :
    Calls Tryz.prog 5 #[.int .i64 p, v] w fun e w' => e = .returned (.tuple #[.int .i64 0, .slice none 0 0, .int .i64 2]) ∧ Below w.heap.size w w' := by
  have hM := Lib.hid (rdM1 (T := 22) h1.out)
  have hB : Hid (Below w.heap.size w (w.alloc (.cells #[v] 22))) := (Below.refl _ _).alloc (Nat.le_refl _) _
  have hls : Hid (∀ Y ∈ [Z], Y.length ≤ 1000000) := by intro Y hZ; simp at hZ; subst hZ; omega
  obtain ⟨a1, cap1, rfl⟩ := h1.out.shape
  go_enter Tryz.func5, Tryz.ntmps5
  go_wp2_with (fail)
  refine (arePolys_no p _ [Z] _ hM (by simp) hls hn).mono ?_
  rintro e w1 ⟨rfl, hB1⟩
  have HB := Lib.hid (hB.out.trans (hB1.mono (by simp)))
  clear hB1
  go_wp2_with (fail)
  go_ret3
  exact ⟨rfl, HB.out⟩

set_option maxRecDepth 100000 in
set_option maxHeartbeats 1000000 in
theorem Irreducible_arg (p : Int) (Z : List Int) (v : Value) (w : World) (h1 : Hid (Rd w v 1 Z.length (zs Z))) (hl1 : Z.length ≤ 100000) (hn : Hid (¬ Args1 p Z)) :
    Calls Tryz.prog 6 #[.int .i64 p, v] w fun e w' => e = .returned (.tuple #[.bool false, .int .i64 2]) ∧ Below w.heap.size w w' := by
  have hM := Lib.hid (rdM1 (T := 22) h1.out)
  have hB : Hid (Below w.heap.size w (w.alloc (.cells #[v] 22))) := (Below.refl _ _).alloc (Nat.le_refl _) _
  have hls : Hid (∀ Y ∈ [Z], Y.length ≤ 1000000) := by intro Y hZ; simp at hZ; subst hZ; omega
  obtain ⟨a1, cap1, rfl⟩ := h1.out.shape
  go_enter Tryz.func6, Tryz.ntmps6
  go_wp2_with (fail)
  refine (arePolys_no p _ [Z] _ hM (by simp) hls hn).mono ?_
  rintro e w1 ⟨rfl, hB1⟩
  have HB := Lib.hid (hB.out.trans (hB1.mono (by simp)))
  clear hB1
  go_wp2_with (fail)
  go_ret2
  exact ⟨rfl, HB.out⟩

theorem Q.FacL.monVal {p : Nat} (hP : M.Pr p) {F : List Nat} (hF : Q.Pol p F) (h0 : F.length ≠ 0) {L : List (List Nat × Nat)} {l : List (List Nat)} (h : Q.FacL p F L l) : Q.ev p (Q.monicP p F) = Q.ev p (Q.prodL p l) := by
  have hm := Q.monic_is hP hF h0
  obtain ⟨c, hc, hcp, hc0, ec⟩ := Q.lastC hP hF h0
  have e1 := h.val
  rw [← hc, ec] at e1
  refine Q.cancelX hP (Q.IsP.ev hm.1) (Q.prodL_isP hP h.irr) (Q.IsP.const (by have := hP.1; omega) c) (Q.ev_ne hP (Q.pol_const hcp hc0) (by simp)) ?_
  rw [Q.Px.mul_comm, e1, Q.Px.mul_comm]

end Go.Proofs.YtbehihanhfmmhaaGreat

namespace Go.Proofs.YtbehihanhfmmhaaGreat
open Go.RowKit

theorem Q.adv_stop {p : Nat} {f : List Nat} {i : Nat} (h : i < f.length) (hne : f.getD i 0 ≠ p - 1) : Q.advanceP p (f.drop i) = (f.drop i).set 0 (f.getD i 0 + 1) := by
  have e : f.getD i 0 = f[i] := by simp [List.getD, h]
  rw [List.drop_eq_getElem_cons h, Q.advanceP, if_neg (by rw [← e]; exact hne), e]
  rfl
theorem Q.adv_next {p : Nat} {f : List Nat} {i : Nat} (h : i < f.length) (he : f.getD i 0 = p - 1) : Q.advanceP p (f.drop i) = 0 :: Q.advanceP p (f.drop (i + 1)) := by
  have e : f.getD i 0 = f[i] := by simp [List.getD, h]
  rw [List.drop_eq_getElem_cons h, Q.advanceP, if_pos (by rw [← e]; exact he)]
theorem Q.zset (f : List Nat) (i x : Nat) (_h : i < f.length) : (List.replicate i 0 ++ f.drop i).set i x = List.replicate i 0 ++ (f.drop i).set 0 x := by
  rw [List.set_append, if_neg (by simp), List.length_replicate, Nat.sub_self]
theorem Q.zset0 (f : List Nat) (i : Nat) (h : i < f.length) : (List.replicate i 0 ++ f.drop i).set i 0 = List.replicate (i + 1) 0 ++ f.drop (i + 1) := by
  rw [Q.zset f i 0 h, List.drop_eq_getElem_cons h, List.set_cons_zero, List.replicate_succ' (n := i), List.append_assoc]
  rfl

set_option maxRecDepth 100000 in
set_option maxHeartbeats 1000000 in
theorem advance_is (p g n cap : Nat) (F : List Nat) (w ws : World) (hp : 2 ≤ p) (hp2 : p ≤ 1021) (hS : Hid (RSt w ws g n cap F)) (hl : n ≤ 100000) (hF : Hid (∀ x ∈ F, x < p)) (hj : Hid (∃ j, j < n ∧ F.getD j 0 ≠ p - 1)) :
    Calls Tryz.prog 50 #[.int .i64 p, .slice (some ⟨g, 0, none⟩) n cap] ws fun x w' => x = .returned (.tuple #[]) ∧ RSt w w' g n cap (Q.advanceP p F) := by
  have HL : Hid (F.length = n) := hS.out.len
  have H0 : Hid (RSt w ws g n cap (List.replicate 0 0 ++ F.drop 0)) := hS
  have HA : Hid (Q.advanceP p F = List.replicate 0 0 ++ Q.advanceP p (F.drop 0)) := by show _ = _; rw [List.drop_zero]; rfl
  have HK : Hid (∀ k, k < 0 → F.getD k 0 = p - 1) := fun k hk => absurd hk (by omega)
  have hpp : (p : Int) - 1 = ((p - 1 : Nat) : Int) := by omega
  clear hS
  go_enter Tryz.func50, Tryz.ntmps50
  go_wp2_with (fail)
  go_loopw [4] (fun iv wr => ∃ i : Nat, iv = .int .i64 i ∧ i ≤ n ∧ Hid (RSt w wr g n cap (List.replicate i 0 ++ F.drop i)) ∧ Hid (Q.advanceP p F = List.replicate i 0 ++ Q.advanceP p (F.drop i)) ∧ Hid (∀ k, k < i → F.getD k 0 = p - 1)) (fun iv _ => n - (intOf iv).toNat)
  case atStart => exact ⟨0, rfl, by omega, H0, HA, HK⟩
  case round =>
    obtain ⟨i, rfl, hi, HS, HA, HK⟩ := hrel
    have hin : i < n := by
      obtain ⟨j, h1, h2⟩ := hj.out
      rcases Nat.lt_or_ge i n with h | h
      · exact h
      · exact absurd (HK.out j (by omega)) h2
    have hiF : i < F.length := by have := HL.out; omega
    obtain ⟨x, hx⟩ : ∃ x, x = F.getD i 0 := ⟨_, rfl⟩
    have hgx : (List.replicate i 0 ++ F.drop i).getD i 0 = x := by
      rw [hx]; simp [List.getD, List.getElem?_append, hiF]
    have hc := HS.out.cell hin
    rw [hgx] at hc
    have hfr := HS.out.free i
    have hxp : x < p := by rw [hx]; exact hF.out _ (by rw [show F.getD i 0 = F[i] by simp [List.getD, hiF]]; exact List.getElem_mem hiF)
    have hin2 : (i : Int) < (n : Int) := by omega
    by_cases he : x = p - 1
    · have hd : ((x : Int) == (p : Int) - 1) = true := by rw [beq_iff_eq]; omega
      have HSn : Hid (RSt w (wr.setCell ⟨g, i, none⟩ (.int .i64 0)) g n cap (List.replicate (i + 1) 0 ++ F.drop (i + 1))) := by
        have h1 := HS.out.set i 0
        rw [Q.zset0 F i hiF] at h1
        exact h1
      have HAn : Hid (Q.advanceP p F = List.replicate (i + 1) 0 ++ Q.advanceP p (F.drop (i + 1))) := by
        show _ = _
        rw [HA.out, Q.adv_next hiF (by rw [← hx]; exact he), List.replicate_succ' (n := i), List.append_assoc]
        rfl
      have HKn : Hid (∀ k, k < i + 1 → F.getD k 0 = p - 1) := fun k hk => by
        rcases Nat.lt_or_ge k i with h | h
        · exact HK.out k h
        · rw [show k = i by omega, ← hx]; exact he
      clear he hx hgx
      go_wp2_with (fail)
      go_roundw
      case rel => exact ⟨i + 1, by go_num, by omega, HSn, HAn, HKn⟩
      case measure => simp [intOf]; omega
    · have hd : ((x : Int) == (p : Int) - 1) = false := by rw [beq_eq_false_iff_ne]; omega
      have HSn : Hid (RSt w (wr.setCell ⟨g, i, none⟩ (.int .i64 ((x : Int) + 1))) g n cap (Q.advanceP p F)) := by
        have h1 := HS.out.set i (x + 1)
        rw [Q.zset F i (x + 1) hiF, hx, ← Q.adv_stop hiF (by rw [← hx]; exact he), ← HA.out, ← hx] at h1
        exact h1
      clear he hx hgx
      go_wp2_with (fail)
      go_end0
      exact ⟨rfl, HSn.out⟩

end Go.Proofs.YtbehihanhfmmhaaGreat

namespace Go.Proofs.YtbehihanhfmmhaaGreat
open Go.RowKit

set_option maxHeartbeats 1000000 in
theorem isDegree_is (n : Int) (w : World) : Calls Tryz.prog 48 #[.int .i64 n] w fun x w' => x = .returned (.bool (decide (1 ≤ n ∧ n ≤ 32))) ∧ w' = w := by
  by_cases h1 : 1 ≤ n
  · by_cases h2 : n ≤ 32
    · have hd1 : decide (1 ≤ n) = true := by simpa using h1
      have hd2 : decide (n ≤ 32) = true := by simpa using h2
      have HE : Hid (decide (1 ≤ n ∧ n ≤ 32) = true) := by show _ = _; simp [h1, h2]
      go_enter Tryz.func48, Tryz.ntmps48
      go_wp2_with (fail)
      go_ret
      exact ⟨by first | (rw [HE.out]; rfl) | rfl, rfl⟩
    · have hd1 : decide (1 ≤ n) = true := by simpa using h1
      have hd2 : decide (n ≤ 32) = false := by simpa using h2
      have HE : Hid (decide (1 ≤ n ∧ n ≤ 32) = false) := by show _ = _; simp [h2]
      go_enter Tryz.func48, Tryz.ntmps48
      go_wp2_with (fail)
      go_ret
      exact ⟨by first | (rw [HE.out]; rfl) | rfl, rfl⟩
  · have hd1 : decide (1 ≤ n) = false := by simpa using h1
    have HE : Hid (decide (1 ≤ n ∧ n ≤ 32) = false) := by show _ = _; simp [h1]
    go_enter Tryz.func48, Tryz.ntmps48
    go_wp2_with (fail)
    go_ret
    exact ⟨by first | (rw [HE.out]; rfl) | rfl, rfl⟩

end Go.Proofs.YtbehihanhfmmhaaGreat

namespace Go.Proofs.YtbehihanhfmmhaaGreat
open Go.RowKit

/-- The search from f finds res in at most n steps, and never steps over the end. -/
def Q.FirstOk (p : Nat) (res : List Nat) : Nat → List Nat → Prop
  | 0, _ => False
  | n + 1, f => Q.Pol p f ∧ ((Q.irredP p f = true ∧ f = res) ∨ (Q.irredP p f = false ∧ (∃ j, j < f.length ∧ f.getD j 0 ≠ p - 1) ∧ (Q.advanceP p f).length = f.length ∧ Q.FirstOk p res n (Q.advanceP p f)))

theorem Q.rep_set (n : Nat) : (List.replicate (n + 1) 0).set n 1 = List.replicate n 0 ++ [1] := by
  rw [List.replicate_succ', List.set_append, if_neg (by simp)]
  simp

set_option maxRecDepth 100000 in
set_option maxHeartbeats 2000000 in
theorem First_ok (p n N : Nat) (res : List Nat) (w : World) (hP : Hid (M.Pr p)) (hp2 : p ≤ 1021) (hn1 : 1 ≤ n) (hn2 : n ≤ 32) (hD : Hid (Q.FirstOk p res N (List.replicate n 0 ++ [1]))) :
    Calls Tryz.prog 21 #[.int .i64 p, .int .i64 n] w (RetE w res) := by
  have hp : 2 ≤ p := hP.out.1
  have hfi : Hid (FieldI (p : Int)) := ⟨by omega, by omega, by rw [Int.toNat_natCast]; exact hP.out⟩
  have hde : Hid (decide (1 ≤ (n : Int) ∧ (n : Int) ≤ 32) = true) := by show _ = _; rw [decide_eq_true_iff]; omega
  obtain ⟨i0, hi, hz0, hz1, hz2⟩ := info_parts Tryz.infoZ
  go_enter Tryz.func21, Tryz.ntmps21
  go_wp2_with (fail)
  refine (isField_yes p w hfi).mono ?_
  rintro e w1 ⟨rfl, hB1⟩
  have HB1 := Lib.hid hB1
  clear hB1
  go_wp2_with (fail)
  refine (isDegree_is n w1).mono ?_
  rintro e w1' ⟨rfl, rfl⟩
  rw [hde.out]
  go_wp2_with (at_make; refine wpList_make_full _ rfl _ _ 22 rfl w.heap.size 3 i0 (.int .i64 0) 1 Tryz.underlying22 hi hz0 hz1 .i64 .i64 _ _ (n + 1) rfl rfl rfl rfl (by rw [hz2]; omega) (by unfold maxLen; omega) HB1.out.size ?_)
  intro w2 hown2 hgrow2
  obtain ⟨g, hg⟩ : ∃ g, g = w1'.heap.size := ⟨_, rfl⟩
  have HS2 : Hid (RSt w w2 g (n + 1) (n + 1) (List.replicate (n + 1) 0)) := by
    refine ⟨?_, HB1.out.trans ((below_of_grown hgrow2).mono HB1.out.size)⟩
    rw [← nats_zeros, hg]; exact hown2
  have d1 := HS2.out.cell (Nat.lt_succ_self n)
  have d2 := HS2.out.free n
  have HS3 : Hid (RSt w (w2.setCell ⟨g, n, none⟩ (.int .i64 1)) g (n + 1) (n + 1) (List.replicate n 0 ++ [1])) := by
    have h1 := HS2.out.set n 1
    rw [Q.rep_set] at h1
    exact h1
  have hnn : (n : Int) < (n : Int) + 1 := by omega
  rw [← hg]
  clear hown2 hgrow2 hg
  go_wp2_with (fail)
  go_loopg [] N (fun gk wx => gk ≤ N ∧ ∃ f, Hid (RSt w wx g (n + 1) (n + 1) f) ∧ Hid (Q.FirstOk p res gk f))
  case atStart => exact ⟨Nat.le_refl _, _, HS3, hD⟩
  case round =>
    obtain ⟨hgN, f, HS, HO⟩ := hrel
    cases gk with
    | zero => exact HO.out.elim
    | succ gk' =>
      have hlen : f.length = n + 1 := HS.out.len
      obtain ⟨hPf, hcase⟩ := HO.out
      have HPf := Lib.hid hPf
      have HBw := Lib.hid HS.out.below
      have HRf : Hid (Rd wr (.slice (some ⟨g, 0, none⟩) (n + 1) (n + 1)) 1 f.length (nats f)) := by show Rd _ _ _ _ _; rw [hlen]; exact Rd.of_own HS.out.own
      rcases hcase with ⟨hirr, hres⟩ | ⟨hirr, hj, hal, hrec⟩
      · have HE := Lib.hid (And.intro hirr hres)
        clear hirr hres hPf
        go_wp2_with (fail)
        refine (isIrreducible_is p f _ _ hP hp2 HRf HPf (by omega)).mono ?_
        rintro e w5 ⟨rfl, hB5⟩
        rw [HE.out.1]
        have HS5 : Hid (NewL w w5 (.slice (some ⟨g, 0, none⟩) (n + 1) (n + 1)) res ∧ Below w.heap.size w w5) := by
          refine ⟨?_, HBw.out.trans (hB5.mono HBw.out.size)⟩
          have h1 := own_kept HS.out.own hB5
          show World.ownsRow _ _ _ _ _ _ _
          rw [← HE.out.2, hlen]; exact h1
        clear hB5
        go_wp2_with (fail)
        go_ret2
        exact ⟨⟨_, rfl, HS5.out.1⟩, HS5.out.2⟩
      · have HE := Lib.hid (And.intro hirr (And.intro hj (And.intro hal hrec)))
        clear hirr hj hal hrec hPf
        go_wp2_with (fail)
        refine (isIrreducible_is p f _ _ hP hp2 HRf HPf (by omega)).mono ?_
        rintro e w5 ⟨rfl, hB5⟩
        rw [HE.out.1]
        have HS5 : Hid (RSt w w5 g (n + 1) (n + 1) f) := ⟨own_kept HS.out.own hB5, HBw.out.trans (hB5.mono HBw.out.size)⟩
        clear hB5
        go_wp2_with (fail)
        refine (advance_is p g (n + 1) (n + 1) f w _ hp hp2 HS5 (by omega) HPf.out.1 (by have := HE.out.2.1; rw [hlen] at this; exact this)).mono ?_
        rintro e w6 ⟨rfl, hS6⟩
        have HS6 := Lib.hid hS6
        have HO6 : Hid (Q.FirstOk p res gk' (Q.advanceP p f)) := HE.out.2.2.2
        clear hS6
        go_wp2_with (fail)
        go_roundg gk'
        case measure => omega
        case rel => exact ⟨by omega, _, HS6, HO6⟩

end Go.Proofs.YtbehihanhfmmhaaGreat

namespace Go.Proofs.YtbehihanhfmmhaaGreat
open Go.RowKit

theorem Q.pol_dec {p : Nat} {f : List Nat} (h1 : f.all (fun x => decide (x < p)) = true) (h2 : Q.trimLen f = f.length) : Q.Pol p f := ⟨fun x hx => by simpa using List.all_eq_true.1 h1 x hx, h2⟩

theorem awake_firstOk : Q.FirstOk 2 [1, 1, 0, 1] 9 (List.replicate 3 0 ++ [1]) := by
  have e0 : (List.replicate 3 0 ++ [1] : List Nat) = [0, 0, 0, 1] := rfl
  rw [e0]
  have a1 : Q.advanceP 2 [0, 0, 0, 1] = [1, 0, 0, 1] := by decide +kernel
  have a2 : Q.advanceP 2 [1, 0, 0, 1] = [0, 1, 0, 1] := by decide +kernel
  have a3 : Q.advanceP 2 [0, 1, 0, 1] = [1, 1, 0, 1] := by decide +kernel
  refine ⟨Q.pol_dec (by decide +kernel) (by decide +kernel), .inr ⟨by decide +kernel, ⟨0, by simp, by simp⟩, by rw [a1]; rfl, ?_⟩⟩
  rw [a1]
  refine ⟨Q.pol_dec (by decide +kernel) (by decide +kernel), .inr ⟨by decide +kernel, ⟨1, by simp, by simp⟩, by rw [a2]; rfl, ?_⟩⟩
  rw [a2]
  refine ⟨Q.pol_dec (by decide +kernel) (by decide +kernel), .inr ⟨by decide +kernel, ⟨0, by simp, by simp⟩, by rw [a3]; rfl, ?_⟩⟩
  rw [a3]
  exact ⟨Q.pol_dec (by decide +kernel) (by decide +kernel), .inl ⟨by decide +kernel, rfl⟩⟩

theorem awake_monic : Q.monicP 5 [1, 0, 1] = [1, 0, 1] := by decide +kernel
theorem awake_fact34 : Q.factLoop 5 34 1 [1, 0, 1] = some [([3, 1], 1), ([2, 1], 1)] ∨ Q.factLoop 5 34 1 [1, 0, 1] = some [([2, 1], 1), ([3, 1], 1)] := by decide +kernel
theorem awake_pr5 : M.Pr 5 := ⟨by omega, fun d hd => by
  have h1 := Nat.le_of_dvd (by omega) hd
  rcases (by omega : d = 0 ∨ d = 1 ∨ d = 2 ∨ d = 3 ∨ d = 4 ∨ d = 5) with rfl | rfl | rfl | rfl | rfl | rfl
  all_goals first | exact .inl rfl | exact .inr rfl | (revert hd; decide)⟩
theorem awake_pr2 : M.Pr 2 := ⟨by omega, fun d hd => by
  have h1 := Nat.le_of_dvd (by omega) hd
  rcases (by omega : d = 0 ∨ d = 1 ∨ d = 2) with rfl | rfl | rfl
  all_goals first | exact .inl rfl | exact .inr rfl | (revert hd; decide)⟩

end Go.Proofs.YtbehihanhfmmhaaGreat

namespace Go.Proofs.YtbehihanhfmmhaaGreat
namespace Q

/-- What is left of p^n after d rounds. -/
def leftAt (p k n d : Nat) : Int := (List.range d).foldl (fun left d => if n % (d + 1) = 0 then left - ((d + 1 : Nat) : Int) * countP p k (d + 1) else left) ((p ^ n : Nat) : Int)

theorem leftAt_zero (p k n : Nat) : leftAt p k n 0 = ((p ^ n : Nat) : Int) := rfl
theorem leftAt_succ (p k n d : Nat) : leftAt p k n (d + 1) = if n % (d + 1) = 0 then leftAt p k n d - ((d + 1 : Nat) : Int) * countP p k (d + 1) else leftAt p k n d := by
  unfold leftAt; rw [List.range_succ, List.foldl_append]; rfl
theorem countP_succ (p k n : Nat) : countP p (k + 1) n = leftAt p k n (n - 1) / (n : Int) := rfl

def geo (p : Nat) : Nat → Nat
  | 0 => 0
  | d + 1 => geo p d + p ^ (d + 1)

theorem geo_le {p : Nat} (hp : 2 ≤ p) : ∀ d, geo p d + 2 ≤ 2 * p ^ d
  | 0 => by simp [geo]
  | d + 1 => by
    have ih := geo_le hp d
    have h1 : p ^ d * 2 ≤ p ^ d * p := Nat.mul_le_mul_left _ hp
    rw [geo, Nat.pow_succ]
    omega

theorem geo_lt {p n d : Nat} (hp : 2 ≤ p) (h : d < n) : geo p d < p ^ n := by
  have h1 := geo_le hp d
  have h2 : p ^ (d + 1) ≤ p ^ n := Nat.pow_le_pow_right (by omega) h
  have h3 : p ^ d * 2 ≤ p ^ d * p := Nat.mul_le_mul_left _ hp
  rw [Nat.pow_succ] at h2
  omega

theorem count_bd {p : Nat} (hp : 2 ≤ p) : ∀ (k n : Nat), 1 ≤ n → 0 ≤ countP p k n ∧ (n : Int) * countP p k n ≤ ((p ^ n : Nat) : Int)
  | 0, n, _ => ⟨by simp [countP], by simp only [countP, Int.mul_zero]; exact Int.natCast_nonneg _⟩
  | k + 1, n, h => by
    have H : ∀ d, ((p ^ n : Nat) : Int) - (geo p d : Nat) ≤ leftAt p k n d ∧ leftAt p k n d ≤ ((p ^ n : Nat) : Int) := by
      intro d
      induction d with
      | zero => simp [geo, leftAt_zero]
      | succ d ih =>
        have ⟨c1, c2⟩ := count_bd hp k (d + 1) (by omega)
        have c3 : 0 ≤ ((d + 1 : Nat) : Int) * countP p k (d + 1) := Int.mul_nonneg (by omega) c1
        rw [leftAt_succ, geo]
        split
        · omega
        · omega
    have h1 := H (n - 1)
    have h2 := geo_lt hp (show n - 1 < n by omega)
    rw [countP_succ]
    have h0 : (0 : Int) ≤ leftAt p k n (n - 1) := by omega
    refine ⟨Int.ediv_nonneg h0 (by omega), Int.le_trans (Int.mul_ediv_self_le (by omega)) h1.2⟩

theorem left_bd {p : Nat} (hp : 2 ≤ p) (k n d : Nat) (h : d < n) : 0 ≤ leftAt p k n d ∧ leftAt p k n d ≤ ((p ^ n : Nat) : Int) := by
  have H : ∀ d, ((p ^ n : Nat) : Int) - (geo p d : Nat) ≤ leftAt p k n d ∧ leftAt p k n d ≤ ((p ^ n : Nat) : Int) := by
    intro d
    induction d with
    | zero => simp [geo, leftAt_zero]
    | succ d ih =>
      have ⟨c1, c2⟩ := count_bd hp k (d + 1) (by omega)
      have c3 : 0 ≤ ((d + 1 : Nat) : Int) * countP p k (d + 1) := Int.mul_nonneg (by omega) c1
      rw [leftAt_succ, geo]
      split
      · omega
      · omega
  have h1 := H d
  have h2 := geo_lt hp h
  omega

/-- The Moebius function, off a factorization. -/
def mobL : List (Nat × Nat) → Int
  | [] => 1
  | x :: l => if 1 < x.2 then 0 else - mobL l

def facOf (n : Nat) : List (Nat × Nat) := ([2, 3, 5, 7, 11, 13, 17, 19, 23, 29, 31].filterMap fun q => let e := (List.range 6).filter (fun e => n % q ^ (e + 1) == 0); if e.length = 0 then none else some (q, e.length))

theorem pr_small {n : Nat} (h2 : 2 ≤ n) (h : ∀ d, d < n → 2 ≤ d → n % d ≠ 0) : M.Pr n := by
  refine ⟨h2, fun d hd => ?_⟩
  have hd0 : 0 < d := Nat.pos_of_dvd_of_pos hd (by omega)
  have hle := Nat.le_of_dvd (by omega) hd
  by_cases h1 : d = 1
  · exact .inl h1
  · by_cases hn : d = n
    · exact .inr hn
    · exact absurd (Nat.mod_eq_zero_of_dvd hd) (h d (by omega) (by omega))

def goodFac : Nat → List (Nat × Nat) → Bool
  | _, [] => true
  | lo, x :: l => decide (lo < x.1) && (decide (2 ≤ x.1) && ((List.range x.1).all fun d => decide (d < 2) || decide (x.1 % d ≠ 0))) && decide (1 ≤ x.2) && goodFac x.1 l

theorem goodFac_is : ∀ (l : List (Nat × Nat)) (lo : Nat), goodFac lo l = true → M.FacFrom lo l
  | [], _, _ => trivial
  | x :: l, lo, h => by
    simp only [goodFac, Bool.and_eq_true, decide_eq_true_eq, List.all_eq_true, List.mem_range, Bool.or_eq_true] at h
    exact ⟨h.1.1.1, pr_small h.1.1.2.1 (fun d h1 h2 => (h.1.1.2.2 d h1).resolve_left (by omega)), h.1.2, goodFac_is l _ h.2⟩

theorem facOf_is {n : Nat} (h1 : 1 ≤ n) (h2 : n ≤ 32) : M.IsFac n (facOf n) := by
  have H : ∀ n, n < 33 → 1 ≤ n → goodFac 1 (facOf n) = true ∧ M.prodP (facOf n) = n := by decide +kernel
  have ⟨a, b⟩ := H n (by omega) h1
  exact ⟨goodFac_is _ _ a, b⟩

/-- The reference's sum after j rounds: d runs from n down. -/
def sumAt (p n : Nat) : Nat → Int
  | 0 => 0
  | j + 1 => if n % (n - j) = 0 then sumAt p n j + mobL (facOf (n / (n - j))) * ((p ^ (n - j) : Nat) : Int) else sumAt p n j

theorem mobL_bd : ∀ l, -1 ≤ mobL l ∧ mobL l ≤ 1
  | [] => by simp [mobL]
  | x :: l => by have := mobL_bd l; rw [mobL]; split <;> omega

theorem sumAt_bd {p n : Nat} : ∀ j, j ≤ n → -((geo p n : Nat) : Int) + ((geo p (n - j) : Nat) : Int) ≤ sumAt p n j ∧ sumAt p n j ≤ ((geo p n : Nat) : Int) - ((geo p (n - j) : Nat) : Int)
  | 0, _ => by simp [sumAt]; omega
  | j + 1, h => by
    have ih := sumAt_bd (p := p) (n := n) j (by omega)
    have e : geo p (n - j) = geo p (n - (j + 1)) + p ^ (n - j) := by
      obtain ⟨d, hd⟩ : ∃ d, n - j = d + 1 := ⟨n - j - 1, by omega⟩
      rw [hd, show n - (j + 1) = d by omega, geo]
    rw [sumAt]
    split
    · have hm := mobL_bd (facOf (n / (n - j)))
      have hx : -((p ^ (n - j) : Nat) : Int) ≤ mobL (facOf (n / (n - j))) * ((p ^ (n - j) : Nat) : Int) ∧ mobL (facOf (n / (n - j))) * ((p ^ (n - j) : Nat) : Int) ≤ ((p ^ (n - j) : Nat) : Int) := by
        generalize p ^ (n - j) = P
        have h0 : (0 : Int) ≤ (P : Int) := Int.natCast_nonneg _
        rcases (by omega : mobL (facOf (n / (n - j))) = -1 ∨ mobL (facOf (n / (n - j))) = 0 ∨ mobL (facOf (n / (n - j))) = 1) with h1 | h1 | h1 <;> rw [h1] <;> constructor <;> omega
      rw [e] at ih
      omega
    · rw [e] at ih; omega

theorem sumAt_abs {p n : Nat} (hp : 2 ≤ p) (h : p ^ n ≤ 2305843009213693952) (j : Nat) (hj : j ≤ n) : -4611686018427387904 ≤ sumAt p n j ∧ sumAt p n j ≤ 4611686018427387904 := by
  have h1 := sumAt_bd (p := p) j hj
  have h2 := geo_le hp n
  omega

def cntOk (p n : Nat) : Bool :=
  if p ^ n ≤ 2305843009213693952 then decide (0 ≤ sumAt p n n) &&
    if p ^ n ≤ 576460752303423488 then decide (countP p n n = sumAt p n n / (n : Int))
    else decide ((9007199254740992 : Int) < sumAt p n n / (n : Int))
  else true

def cntAll (n : Nat) : Bool := (List.range 1020).all fun p => cntOk (p + 2) n

set_option maxRecDepth 100000 in
theorem cntAll_is : ∀ n, n < 32 → cntAll (n + 1) = true := by decide +kernel

theorem cnt_is {p n : Nat} (hp : 2 ≤ p) (hp2 : p ≤ 1021) (h1 : 1 ≤ n) (h2 : n ≤ 32) : cntOk p n = true := by
  have h3 := cntAll_is (n - 1) (by omega)
  rw [show n - 1 + 1 = n by omega] at h3
  have h4 := List.all_eq_true.1 h3 (p - 2) (List.mem_range.2 (by omega))
  rw [show p - 2 + 2 = p by omega] at h4
  exact h4

end Q
end Go.Proofs.YtbehihanhfmmhaaGreat

namespace Go.Proofs.YtbehihanhfmmhaaGreat
open Go.RowKit

theorem Q.pow_pos' {p : Nat} (hp : 2 ≤ p) (i : Nat) : 1 ≤ p ^ i := Nat.pos_of_ne_zero fun h => by
  have := Nat.pow_eq_zero.1 h; omega

theorem Q.pow_le' {p i n : Nat} (hp : 2 ≤ p) (h : i ≤ n) : p ^ i ≤ p ^ n := Nat.pow_le_pow_right (by omega) h

set_option maxRecDepth 100000 in
set_option maxHeartbeats 2000000 in
theorem countOf_is (p : Nat) (hp : 2 ≤ p) (_hp2 : p ≤ 1021) : ∀ (k n : Nat) (w : World), 1 ≤ n → n ≤ k → n ≤ 32 → Hid (p ^ n ≤ 2305843009213693952) →
    Calls Tryz.prog 49 #[.int .i64 p, .int .i64 n] w fun x w' => x = .returned (.int .i64 (Q.countP p k n)) ∧ w' = w := by
  intro k
  induction k with
  | zero => intro n w h1 h2; omega
  | succ k ih =>
    intro n w h1 h2 h3 hpw
    have HIH := Lib.hid ih
    clear ih
    have HE : Hid (Q.leftAt p k n (n - 1) / (n : Int) = Q.countP p (k + 1) n) := (Q.countP_succ p k n).symm
    have hnz : ((n : Int) == 0) = false := by rw [beq_eq_false_iff_ne]; omega
    go_enter Tryz.func49, Tryz.ntmps49
    go_wp2_with (fail)
    go_loopw [5, 8] (fun lv iv wx => ∃ (i y : Nat), lv = .int .i64 y ∧ iv = .int .i64 i ∧ i ≤ n ∧ y ≤ 2305843009213693952 ∧ Hid (y = p ^ i) ∧ wx = w) (fun _ iv _ => n - (intOf iv).toNat)
    case atStart => exact ⟨0, 1, rfl, rfl, by omega, by omega, (Nat.pow_zero p).symm, by first | rfl | trivial⟩
    case round =>
      obtain ⟨i, y, rfl, rfl, hi, hy, HY, rfl⟩ := hrel
      by_cases hlt : i < n
      · have HY2 : Hid (y * p = p ^ (i + 1)) := by show _ = _; rw [Nat.pow_succ, ← HY.out]
        have hb : y * p ≤ 2305843009213693952 := by rw [HY2.out]; exact Nat.le_trans (Q.pow_le' hp (by omega)) hpw.out
        have hb1 : (0 : Int) ≤ (y : Int) * (p : Int) ∧ (y : Int) * (p : Int) ≤ 2305843009213693952 := by
          have : (y : Int) * (p : Int) = ((y * p : Nat) : Int) := by simp
          omega
        have HZ : Hid ((y : Int) * (p : Int) = ((y * p : Nat) : Int)) := by show _ = _; simp
        go_wp2_with (fail)
        go_roundw
        case rel => exact ⟨i + 1, y * p, by first | (rw [← HZ.out]) | (rw [← HZ.out]; go_num), by go_num, by omega, hb, HY2, by first | rfl | trivial⟩
        case measure => simp [intOf]; omega
      · obtain rfl : i = n := by omega
        have HL0 : Hid ((y : Int) = Q.leftAt p k i 0) := by show _ = _; rw [Q.leftAt_zero, HY.out]
        go_wp2_with (fail)
        go_loopw [5, 6] (fun lv dv wx => ∃ (d : Nat) (L : Int), lv = .int .i64 L ∧ dv = .int .i64 d ∧ 1 ≤ d ∧ d ≤ i ∧ 0 ≤ L ∧ L ≤ 2305843009213693952 ∧ Hid (L = Q.leftAt p k i (d - 1)) ∧ wx = wr) (fun _ dv _ => i - (intOf dv).toNat)
        case atStart => exact ⟨1, (y : Int), rfl, rfl, by omega, by omega, by omega, by omega, HL0, by first | rfl | trivial⟩
        case round =>
          obtain ⟨d, L, rfl, rfl, hd1, hd, hL0, hL1, HL, rfl⟩ := hrel
          by_cases hdl : d < i
          · have hc1 : (d : Int) < (i : Int) := by omega
            have hd0 : ((d : Int) == 0) = false := by rw [beq_eq_false_iff_ne]; omega
            have HB := Lib.hid (Q.left_bd hp k i d hdl)
            have HPI : Hid (((p ^ i : Nat) : Int) ≤ 2305843009213693952) := by show _ ≤ _; have := hpw.out; omega
            have HS : Hid (Q.leftAt p k i d = if i % d = 0 then Q.leftAt p k i (d - 1) - ((d : Nat) : Int) * Q.countP p k d else Q.leftAt p k i (d - 1)) := by
              have := Q.leftAt_succ p k i (d - 1); rw [show d - 1 + 1 = d by omega] at this; exact this
            by_cases hm : i % d = 0
            · have hme : ((i : Int) % (d : Int) == 0) = true := by
                rw [beq_iff_eq]; exact_mod_cast congrArg (fun z : Nat => (z : Int)) hm
              have HC := Lib.hid (Q.count_bd hp k d hd1)
              obtain ⟨c, hc⟩ : ∃ c, c = Q.countP p k d := ⟨_, rfl⟩
              have HCE := Lib.hid hc
              have HL2 : Hid (L - (d : Int) * c = Q.leftAt p k i (d + 1 - 1)) := by
                show _ = _; rw [Nat.add_sub_cancel, HS.out, if_pos hm, ← HL.out, hc]
              have hpd : Hid (p ^ d ≤ 2305843009213693952) := Nat.le_trans (Q.pow_le' hp (by omega)) hpw.out
              have hbb : 0 ≤ (d : Int) * c ∧ (d : Int) * c ≤ 2305843009213693952 := by
                have h4 := HC.out
                have h5 := hpd.out
                rw [← hc] at h4
                refine ⟨Int.mul_nonneg (by omega) h4.1, by omega⟩
              have hbs : 0 ≤ L - (d : Int) * c ∧ L - (d : Int) * c ≤ 2305843009213693952 := by
                have h4 := HB.out; have h5 := HPI.out; have h6 := HL2.out; rw [Nat.add_sub_cancel] at h6; rw [h6]; omega
              clear hc hm
              go_wp2_with (go_at_call 49; refine (HIH.out d _ (by omega) (by omega) (by omega) hpd).mono ?_; rintro e w' ⟨rfl, rfl⟩; rw [← HCE.out])
              go_roundw
              case rel => exact ⟨d + 1, L - (d : Int) * c, by first | rfl | go_num, by go_num, by omega, by omega, hbs.1, hbs.2, HL2, by first | rfl | trivial⟩
              case measure => simp [intOf]; omega
            · have hme : ((i : Int) % (d : Int) == 0) = false := by
                rw [beq_eq_false_iff_ne]; intro h; exact hm (by exact_mod_cast h)
              have HL2 : Hid (L = Q.leftAt p k i (d + 1 - 1)) := by show _ = _; rw [Nat.add_sub_cancel, HS.out, if_neg hm, ← HL.out]
              clear hm
              go_wp2_with (fail)
              go_roundw
              case rel => exact ⟨d + 1, L, rfl, by go_num, by omega, by omega, hL0, hL1, HL2, by first | rfl | trivial⟩
              case measure => simp [intOf]; omega
          · have hdi : d = i := by omega
            have hc1 : decide ((d : Int) < (i : Int)) = false := by rw [decide_eq_false_iff_not]; omega
            have HR : Hid (L / (i : Int) = Q.countP p (k + 1) i) := by show _ = _; rw [← HE.out, HL.out, hdi]
            have hq : 0 ≤ L / (i : Int) ∧ L / (i : Int) ≤ 2305843009213693952 := by
              refine ⟨Int.ediv_nonneg hL0 (by omega), ?_⟩
              have := Int.ediv_le_self (i : Int) hL0
              omega
            clear hdi
            go_wp2_with (fail)
            go_ret
            exact ⟨by rw [← HR.out]; rfl, rfl⟩

set_option maxRecDepth 100000 in
set_option maxHeartbeats 2000000 in
theorem Count_ok (p n : Nat) (w : World) (hP : Hid (M.Pr p)) (hp2 : p ≤ 1021) (hn1 : 1 ≤ n) (hn2 : n ≤ 32) (hpw : Hid (p ^ n ≤ 576460752303423488)) (hcl : Hid (Q.countP p n n ≤ 9007199254740992)) :
    Calls Tryz.prog 20 #[.int .i64 p, .int .i64 n] w fun x w' => x = .returned (.tuple #[.int .i64 (Q.countP p n n), .int .i64 0]) ∧ Below w.heap.size w w' := by
  have hp : 2 ≤ p := hP.out.1
  have hfi : Hid (FieldI (p : Int)) := ⟨by omega, by omega, by rw [Int.toNat_natCast]; exact hP.out⟩
  have hde : Hid (decide (1 ≤ (n : Int) ∧ (n : Int) ≤ 32) = true) := by show _ = _; rw [decide_eq_true_iff]; omega
  have hzp : ((p : Int) == 0) = false := by rw [beq_eq_false_iff_ne]; omega
  go_enter Tryz.func20, Tryz.ntmps20
  go_wp2_with (fail)
  refine (isField_yes p w hfi).mono ?_
  rintro e w1 ⟨rfl, hB1⟩
  have HB1 := Lib.hid hB1
  clear hB1
  go_wp2_with (fail)
  refine (isDegree_is n w1).mono ?_
  rintro e w1' ⟨rfl, rfl⟩
  rw [hde.out]
  go_wp2_with (fail)
  go_loopw [6, 17] (fun lv iv wx => ∃ (i y : Nat), lv = .int .i64 y ∧ iv = .int .i64 i ∧ i ≤ n ∧ 1 ≤ y ∧ y ≤ 576460752303423488 ∧ Hid (y = p ^ i) ∧ wx = w1') (fun _ iv _ => n - (intOf iv).toNat)
  case atStart => exact ⟨0, 1, rfl, rfl, by omega, by omega, by omega, (Nat.pow_zero p).symm, by first | rfl | trivial⟩
  case round =>
    obtain ⟨i, y, rfl, rfl, hi, hy0, hy, HY, rfl⟩ := hrel
    by_cases hlt : i < n
    · have HY2 : Hid (y * p = p ^ (i + 1)) := by show _ = _; rw [Nat.pow_succ, ← HY.out]
      have hq : ((576460752303423488 : Int) / (p : Int)) = ((576460752303423488 / p : Nat) : Int) := rfl
      obtain ⟨q, hqq⟩ : ∃ q : Nat, q = 576460752303423488 / p := ⟨_, rfl⟩
      have hqle : q ≤ 576460752303423488 := by rw [hqq]; exact Nat.div_le_self _ _
      have hqi : q < y ↔ 576460752303423488 < y * p := by rw [hqq]; exact Nat.div_lt_iff_lt_mul (by omega)
      rw [← hqq] at hq
      have hilt : (i : Int) < (n : Int) := by omega
      have hb : y * p ≤ 576460752303423488 := by rw [HY2.out]; exact Nat.le_trans (Q.pow_le' hp (by omega)) hpw.out
      have hb1 : (0 : Int) ≤ (y : Int) * (p : Int) ∧ (y : Int) * (p : Int) ≤ 576460752303423488 := by
        have : (y : Int) * (p : Int) = ((y * p : Nat) : Int) := by simp
        omega
      have hb2 : 1 ≤ y * p := by rw [HY2.out]; exact Q.pow_pos' hp _
      have HZ : Hid ((y : Int) * (p : Int) = ((y * p : Nat) : Int)) := by show _ = _; simp
      have hde2 : decide ((q : Int) < (y : Int)) = false := by rw [decide_eq_false_iff_not]; have := hqi; omega
      have hde4 : ¬ ((q : Int) < (y : Int)) := by have := hqi; omega
      clear hqi hqq hqle
      go_wp2_with (fail)
      go_roundw
      case rel => exact ⟨i + 1, y * p, by first | (rw [← HZ.out]) | (rw [← HZ.out]; go_num), by go_num, by omega, hb2, hb, HY2, by first | rfl | trivial⟩
      case measure => simp [intOf]; omega
    · obtain rfl : i = n := by omega
      have HC := Lib.hid (Q.count_bd hp i i (by omega))
      obtain ⟨c, hc⟩ : ∃ c, c = Q.countP p i i := ⟨_, rfl⟩
      have HCE := Lib.hid hc
      have HPW : Hid (p ^ i ≤ 2305843009213693952) := Nat.le_trans hpw.out (by omega)
      have hde3 : decide ((9007199254740992 : Int) < c) = false := by rw [decide_eq_false_iff_not]; have := hcl.out; rw [← hc] at this; omega
      clear hc
      go_wp2_with (go_at_call 49; refine (countOf_is p hp hp2 i i _ (by omega) (by omega) (by omega) HPW).mono ?_; rintro e w' ⟨rfl, rfl⟩; rw [← HCE.out])
      go_ret2
      exact ⟨by first | rfl | (rw [← HCE.out]; rfl) | (rw [← HCE.out]), HB1.out⟩


set_option maxRecDepth 100000 in
set_option maxHeartbeats 2000000 in
theorem Count_big (p n : Nat) (w : World) (hP : Hid (M.Pr p)) (hp2 : p ≤ 1021) (hn1 : 1 ≤ n) (hn2 : n ≤ 32) (hpw : Hid (p ^ n ≤ 576460752303423488)) (hcl : Hid (9007199254740992 < Q.countP p n n)) :
    Calls Tryz.prog 20 #[.int .i64 p, .int .i64 n] w fun x w' => x = .returned (.tuple #[.int .i64 0, .int .i64 5]) ∧ Below w.heap.size w w' := by
  have hp : 2 ≤ p := hP.out.1
  have hfi : Hid (FieldI (p : Int)) := ⟨by omega, by omega, by rw [Int.toNat_natCast]; exact hP.out⟩
  have hde : Hid (decide (1 ≤ (n : Int) ∧ (n : Int) ≤ 32) = true) := by show _ = _; rw [decide_eq_true_iff]; omega
  have hzp : ((p : Int) == 0) = false := by rw [beq_eq_false_iff_ne]; omega
  go_enter Tryz.func20, Tryz.ntmps20
  go_wp2_with (fail)
  refine (isField_yes p w hfi).mono ?_
  rintro e w1 ⟨rfl, hB1⟩
  have HB1 := Lib.hid hB1
  clear hB1
  go_wp2_with (fail)
  refine (isDegree_is n w1).mono ?_
  rintro e w1' ⟨rfl, rfl⟩
  rw [hde.out]
  go_wp2_with (fail)
  go_loopw [6, 17] (fun lv iv wx => ∃ (i y : Nat), lv = .int .i64 y ∧ iv = .int .i64 i ∧ i ≤ n ∧ 1 ≤ y ∧ y ≤ 576460752303423488 ∧ Hid (y = p ^ i) ∧ wx = w1') (fun _ iv _ => n - (intOf iv).toNat)
  case atStart => exact ⟨0, 1, rfl, rfl, by omega, by omega, by omega, (Nat.pow_zero p).symm, by first | rfl | trivial⟩
  case round =>
    obtain ⟨i, y, rfl, rfl, hi, hy0, hy, HY, rfl⟩ := hrel
    by_cases hlt : i < n
    · have HY2 : Hid (y * p = p ^ (i + 1)) := by show _ = _; rw [Nat.pow_succ, ← HY.out]
      have hq : ((576460752303423488 : Int) / (p : Int)) = ((576460752303423488 / p : Nat) : Int) := rfl
      obtain ⟨q, hqq⟩ : ∃ q : Nat, q = 576460752303423488 / p := ⟨_, rfl⟩
      have hqle : q ≤ 576460752303423488 := by rw [hqq]; exact Nat.div_le_self _ _
      have hqi : q < y ↔ 576460752303423488 < y * p := by rw [hqq]; exact Nat.div_lt_iff_lt_mul (by omega)
      rw [← hqq] at hq
      have hilt : (i : Int) < (n : Int) := by omega
      have hb : y * p ≤ 576460752303423488 := by rw [HY2.out]; exact Nat.le_trans (Q.pow_le' hp (by omega)) hpw.out
      have hb1 : (0 : Int) ≤ (y : Int) * (p : Int) ∧ (y : Int) * (p : Int) ≤ 576460752303423488 := by
        have : (y : Int) * (p : Int) = ((y * p : Nat) : Int) := by simp
        omega
      have hb2 : 1 ≤ y * p := by rw [HY2.out]; exact Q.pow_pos' hp _
      have HZ : Hid ((y : Int) * (p : Int) = ((y * p : Nat) : Int)) := by show _ = _; simp
      have hde2 : decide ((q : Int) < (y : Int)) = false := by rw [decide_eq_false_iff_not]; have := hqi; omega
      have hde4 : ¬ ((q : Int) < (y : Int)) := by have := hqi; omega
      clear hqi hqq hqle
      go_wp2_with (fail)
      go_roundw
      case rel => exact ⟨i + 1, y * p, by first | (rw [← HZ.out]) | (rw [← HZ.out]; go_num), by go_num, by omega, hb2, hb, HY2, by first | rfl | trivial⟩
      case measure => simp [intOf]; omega
    · obtain rfl : i = n := by omega
      have HC := Lib.hid (Q.count_bd hp i i (by omega))
      obtain ⟨c, hc⟩ : ∃ c, c = Q.countP p i i := ⟨_, rfl⟩
      have HCE := Lib.hid hc
      have HPW : Hid (p ^ i ≤ 2305843009213693952) := Nat.le_trans hpw.out (by omega)
      have hde3 : decide ((9007199254740992 : Int) < c) = true := by rw [decide_eq_true_iff]; have := hcl.out; rw [← hc] at this; omega
      clear hc
      go_wp2_with (go_at_call 49; refine (countOf_is p hp hp2 i i _ (by omega) (by omega) (by omega) HPW).mono ?_; rintro e w' ⟨rfl, rfl⟩; rw [← HCE.out])
      go_ret2
      exact ⟨by first | rfl | (rw [← HCE.out]; rfl) | (rw [← HCE.out]), HB1.out⟩


set_option maxRecDepth 100000 in
set_option maxHeartbeats 2000000 in
theorem Count_far (p n : Nat) (w : World) (hP : Hid (M.Pr p)) (hp2 : p ≤ 1021) (hn1 : 1 ≤ n) (hn2 : n ≤ 32) (hpw : Hid (576460752303423488 < p ^ n)) :
    Calls Tryz.prog 20 #[.int .i64 p, .int .i64 n] w fun x w' => x = .returned (.tuple #[.int .i64 0, .int .i64 5]) ∧ Below w.heap.size w w' := by
  have hp : 2 ≤ p := hP.out.1
  have hfi : Hid (FieldI (p : Int)) := ⟨by omega, by omega, by rw [Int.toNat_natCast]; exact hP.out⟩
  have hde : Hid (decide (1 ≤ (n : Int) ∧ (n : Int) ≤ 32) = true) := by show _ = _; rw [decide_eq_true_iff]; omega
  have hzp : ((p : Int) == 0) = false := by rw [beq_eq_false_iff_ne]; omega
  go_enter Tryz.func20, Tryz.ntmps20
  go_wp2_with (fail)
  refine (isField_yes p w hfi).mono ?_
  rintro e w1 ⟨rfl, hB1⟩
  have HB1 := Lib.hid hB1
  clear hB1
  go_wp2_with (fail)
  refine (isDegree_is n w1).mono ?_
  rintro e w1' ⟨rfl, rfl⟩
  rw [hde.out]
  go_wp2_with (fail)
  go_loopw [6, 17] (fun lv iv wx => ∃ (i y : Nat), lv = .int .i64 y ∧ iv = .int .i64 i ∧ i ≤ n ∧ 1 ≤ y ∧ y ≤ 576460752303423488 ∧ Hid (y = p ^ i) ∧ wx = w1') (fun _ iv _ => n - (intOf iv).toNat)
  case atStart => exact ⟨0, 1, rfl, rfl, by omega, by omega, by omega, (Nat.pow_zero p).symm, by first | rfl | trivial⟩
  case round =>
    obtain ⟨i, y, rfl, rfl, hi, hy0, hy, HY, rfl⟩ := hrel
    by_cases hlt : i < n
    · have HY2 : Hid (y * p = p ^ (i + 1)) := by show _ = _; rw [Nat.pow_succ, ← HY.out]
      have hq : ((576460752303423488 : Int) / (p : Int)) = ((576460752303423488 / p : Nat) : Int) := rfl
      obtain ⟨q, hqq⟩ : ∃ q : Nat, q = 576460752303423488 / p := ⟨_, rfl⟩
      have hqle : q ≤ 576460752303423488 := by rw [hqq]; exact Nat.div_le_self _ _
      have hqi : q < y ↔ 576460752303423488 < y * p := by rw [hqq]; exact Nat.div_lt_iff_lt_mul (by omega)
      rw [← hqq] at hq
      have hilt : (i : Int) < (n : Int) := by omega
      by_cases hbig : q < y
      · have hde2 : decide ((q : Int) < (y : Int)) = true := by rw [decide_eq_true_iff]; omega
        clear hqi hqq
        go_wp2_with (fail)
        go_ret2
        exact ⟨rfl, HB1.out⟩
      · have hde2 : decide ((q : Int) < (y : Int)) = false := by rw [decide_eq_false_iff_not]; omega
        have hb : y * p ≤ 576460752303423488 := by omega
        have hb1 : (0 : Int) ≤ (y : Int) * (p : Int) ∧ (y : Int) * (p : Int) ≤ 576460752303423488 := by
          have : (y : Int) * (p : Int) = ((y * p : Nat) : Int) := by simp
          omega
        have hb2 : 1 ≤ y * p := by rw [HY2.out]; exact Q.pow_pos' hp _
        have HZ : Hid ((y : Int) * (p : Int) = ((y * p : Nat) : Int)) := by show _ = _; simp
        clear hqi hqq hqle
        go_wp2_with (fail)
        go_roundw
        case rel => exact ⟨i + 1, y * p, by first | (rw [← HZ.out]) | (rw [← HZ.out]; go_num), by go_num, by omega, hb2, hb, HY2, by first | rfl | trivial⟩
        case measure => simp [intOf]; omega
    · obtain rfl : i = n := by omega
      exact absurd hpw.out (by have := HY.out; omega)


set_option maxHeartbeats 1000000 in
theorem Count_arg (p n : Int) (w : World) (h : Hid (¬ (FieldI p ∧ 1 ≤ n ∧ n ≤ 32))) :
    Calls Tryz.prog 20 #[.int .i64 p, .int .i64 n] w fun x w' => x = .returned (.tuple #[.int .i64 0, .int .i64 2]) ∧ Below w.heap.size w w' := by
  by_cases hf : FieldI p
  · have hfi := Lib.hid hf
    have hde : Hid (decide (1 ≤ n ∧ n ≤ 32) = false) := by show _ = _; rw [decide_eq_false_iff_not]; exact fun hc => h.out ⟨hf, hc⟩
    clear hf h
    go_enter Tryz.func20, Tryz.ntmps20
    go_wp2_with (fail)
    refine (isField_yes p w hfi).mono ?_
    rintro e w1 ⟨rfl, hB1⟩
    have HB1 := Lib.hid hB1
    clear hB1
    go_wp2_with (fail)
    refine (isDegree_is n w1).mono ?_
    rintro e w1' ⟨rfl, rfl⟩
    rw [hde.out]
    go_wp2_with (fail)
    go_ret2
    exact ⟨rfl, HB1.out⟩
  · have hfi := Lib.hid hf
    clear hf h
    go_enter Tryz.func20, Tryz.ntmps20
    go_wp2_with (fail)
    refine (isField_no p w hfi).mono ?_
    rintro e w1 ⟨rfl, hB1⟩
    have HB1 := Lib.hid hB1
    clear hB1
    go_wp2_with (fail)
    go_ret2
    exact ⟨rfl, HB1.out⟩

end Go.Proofs.YtbehihanhfmmhaaGreat

namespace Go.Proofs.YtbehihanhfmmhaaGreat
open Go.RowKit

/-- What a list's cells are, whatever the block. -/
theorem Rd.at {w : World} {a : Option Addr} {n cap : Nat} {F : List Nat} (h : Rd w (.slice a n cap) 1 F.length (nats F)) (i : Nat) (hi : i < F.length) :
    ∃ b, a = some ⟨b, 0, none⟩ ∧ b < w.heap.size ∧ w.cell? ⟨b, i, none⟩ = some (.int .i64 (F.getD i 0 : Nat)) := by
  obtain ⟨_, a1, cap1, e, hcap, hcell⟩ := h
  injection e with e1 e2 e3
  subst e1
  rcases hcell with h | ⟨b, rfl, hb, hc⟩
  · omega
  · exact ⟨b, rfl, hb, by rw [hc _ _ (nats_get F i hi), Q.getD_get hi]⟩

set_option maxRecDepth 100000 in
set_option maxHeartbeats 1000000 in
theorem Same_is (F G : List Nat) (v u : Value) (t : Bool) (w : World) (hv : Hid (Rd w v 1 F.length (nats F))) (hu : Hid (Rd w u 1 G.length (nats G))) (hl : F.length ≤ 1000000) (hl2 : G.length ≤ 1000000) (ht : Hid (F = G ↔ t = true)) :
    Calls Tryz.prog 13 #[v, u] w fun x w' => x = .returned (.bool t) ∧ ∃ n, w' = w.drewN n := by
  obtain ⟨_, a1, cap1, rfl, hcap1, _⟩ := hv.out
  obtain ⟨_, a2, cap2, rfl, hcap2, _⟩ := hu.out
  have H1 : Hid (∀ i, i < F.length → ∃ b, a1 = some ⟨b, 0, none⟩ ∧ b < w.heap.size ∧ w.cell? ⟨b, i, none⟩ = some (.int .i64 (F.getD i 0 : Nat))) := fun i hi => hv.out.at i hi
  have H2 : Hid (∀ i, i < G.length → ∃ b, a2 = some ⟨b, 0, none⟩ ∧ b < w.heap.size ∧ w.cell? ⟨b, i, none⟩ = some (.int .i64 (G.getD i 0 : Nat))) := fun i hi => hu.out.at i hi
  clear hv hu
  obtain ⟨m1, hm1⟩ : ∃ m1, m1 = F.length := ⟨_, rfl⟩
  obtain ⟨m2, hm2⟩ : ∃ m2, m2 = G.length := ⟨_, rfl⟩
  rw [← hm1] at hl hcap1 H1 ⊢
  rw [← hm2] at hl2 hcap2 H2 ⊢
  have HM := Lib.hid (And.intro hm1 hm2)
  clear hm1 hm2
  by_cases he : m1 = m2
  · subst he
    have hd : ((m1 : Int) != (m1 : Int)) = false := by simp
    go_enter Tryz.func13, Tryz.ntmps13
    go_wp2_with (fail)
    go_loopw [5] (fun iv wx => ∃ (k m : Nat), iv = .int .i64 k ∧ k ≤ m1 ∧ Hid (∀ i, i < k → F.getD i 0 = G.getD i 0) ∧ wx = w.drewN m) (fun iv _ => m1 - (intOf iv).toNat)
    case atStart => exact ⟨0, 0, rfl, by omega, fun i hi => absurd hi (by omega), by first | rfl | trivial | simp⟩
    case round =>
      obtain ⟨k, m, rfl, hk, HK, rfl⟩ := hrel
      by_cases hlt : k < m1
      · obtain ⟨b1, rfl, hb1, c1⟩ := H1.out k hlt
        obtain ⟨b2, rfl, hb2, c2⟩ := H2.out k hlt
        obtain ⟨x, hx⟩ : ∃ x, x = F.getD k 0 := ⟨_, rfl⟩
        obtain ⟨y, hy⟩ : ∃ y, y = G.getD k 0 := ⟨_, rfl⟩
        rw [← hx] at c1
        rw [← hy] at c2
        have HXY := Lib.hid (And.intro hx hy)
        clear hx hy
        have hkl : (k : Int) < (m1 : Int) := by omega
        by_cases hxy : x = y
        · have hd2 : ((x : Int) != (y : Int)) = false := by rw [hxy]; simp
          have HK2 : Hid (∀ i, i < k + 1 → F.getD i 0 = G.getD i 0) := fun i hi => by
            rcases Nat.lt_or_ge i k with h | h
            · exact HK.out i h
            · obtain rfl : i = k := by omega
              rw [← HXY.out.1, ← HXY.out.2, hxy]
          have HE := Lib.hid hxy
          clear hxy
          go_wp2_with (fail)
          go_quiet (fail)
          go_wp2_with (fail)
          go_roundw
          case rel => exact ⟨k + 1, _, by go_num, by omega, HK2, rfl⟩
          case measure => simp [intOf]; omega
        · have hd2 : ((x : Int) != (y : Int)) = true := by rw [bne_iff_ne]; omega
          have htf : Hid (t = false) := by
            cases t with
            | false => rfl
            | true => exact absurd (ht.out.2 rfl) fun e => hxy (by rw [HXY.out.1, HXY.out.2, e])
          clear hxy
          go_wp2_with (fail)
          go_quiet (fail)
          go_wp2_with (fail)
          go_ret
          exact ⟨by rw [htf.out]; rfl, _, by first | rfl | exact World.drewN_drewN _ _ _⟩
      · obtain rfl : k = m1 := by omega
        have htt : Hid (t = true) := ht.out.1 (Q.ext_getD (by rw [← HM.out.1, ← HM.out.2]) fun i hi => HK.out i (by rw [HM.out.1]; exact hi))
        go_wp2_with (fail)
        go_ret
        exact ⟨by rw [htt.out]; rfl, _, rfl⟩
  · have hd : ((m1 : Int) != (m2 : Int)) = true := by rw [bne_iff_ne]; omega
    have htf : Hid (t = false) := by
      cases t with
      | false => rfl
      | true => exact absurd (ht.out.2 rfl) fun e => he (by rw [HM.out.1, HM.out.2, e])
    clear he
    go_enter Tryz.func13, Tryz.ntmps13
    go_wp2_with (fail)
    go_ret
    exact ⟨by rw [htf.out]; rfl, 0, rfl⟩

set_option maxHeartbeats 1000000 in
theorem at_is (F : List Nat) (i : Nat) (v : Value) (w : World) (hv : Hid (Rd w v 1 F.length (nats F))) (_hl : F.length ≤ 1000000) (_hi : i ≤ 1000000) :
    Calls Tryz.prog 71 #[v, .int .i64 i] w fun x w' => x = .returned (.int .i64 (F.getD i 0 : Nat)) ∧ w' = w := by
  obtain ⟨_, a1, cap1, rfl, hcap1, _⟩ := hv.out
  by_cases h : i < F.length
  · obtain ⟨b, rfl, hb, c⟩ := hv.out.at i h
    obtain ⟨x, hx⟩ : ∃ x, x = F.getD i 0 := ⟨_, rfl⟩
    rw [← hx] at c ⊢
    clear hx hv
    have hil : (i : Int) < (F.length : Int) := by omega
    go_enter Tryz.func71, Tryz.ntmps71
    go_wp2_with (fail)
    go_ret
    exact ⟨rfl, rfl⟩
  · have hz : Hid (F.getD i 0 = 0) := Q.getD_out (by omega)
    have hil : decide ((i : Int) < (F.length : Int)) = false := by rw [decide_eq_false_iff_not]; omega
    clear hv
    go_enter Tryz.func71, Tryz.ntmps71
    go_wp2_with (fail)
    go_ret
    exact ⟨by rw [hz.out]; rfl, rfl⟩

/-- A copy of the first n numbers, appended to nil. -/
theorem take_cells {w : World} {ad : Addr} {n : Nat} {F : List Nat} (h : ∀ i, i < F.length → ∃ b, some ad = some ⟨b, 0, none⟩ ∧ b < w.heap.size ∧ w.cell? ⟨b, i, none⟩ = some (.int .i64 (F.getD i 0 : Nat))) :
    ∀ j u, (nats (F.take n))[j]? = some u → w.cell? (ad.add j) = some u := by
  intro j u hu
  have hj : j < (F.take n).length := by
    rcases Nat.lt_or_ge j (F.take n).length with h1 | h1
    · exact h1
    · rw [List.getElem?_eq_none (by rw [nats_length]; exact h1)] at hu; cases hu
  have hjF : j < F.length := by rw [List.length_take] at hj; omega
  obtain ⟨b, e, hb, hc⟩ := h j hjF
  injection e with e
  subst e
  have hadd : (⟨b, 0, none⟩ : Addr).add j = ⟨b, j, none⟩ := by unfold Addr.add; split <;> simp_all
  rw [hadd, hc, ← hu, nats_get _ _ hj, Q.getD_get hjF, List.getElem_take]

theorem nats_one (F : List Nat) : ∀ u ∈ nats F, u.oneCell' = true := fun u hu => by unfold nats at hu; obtain ⟨z, _, rfl⟩ := List.mem_map.1 hu; rfl

set_option maxRecDepth 100000 in
set_option maxHeartbeats 2000000 in
theorem rtrim_is (F : List Nat) (v : Value) (w : World) (hv : Hid (Rd w v 1 F.length (nats F))) (hl : F.length ≤ 1000000) :
    Calls Tryz.prog 53 #[v] w (RetL w (Q.trim F)) := by
  obtain ⟨_, a, cap, rfl, hcap, _⟩ := hv.out
  have H1 : Hid (∀ i, i < F.length → ∃ b, a = some ⟨b, 0, none⟩ ∧ b < w.heap.size ∧ w.cell? ⟨b, i, none⟩ = some (.int .i64 (F.getD i 0 : Nat))) := fun i hi => hv.out.at i hi
  obtain ⟨n, hn⟩ : ∃ n, n = F.length := ⟨_, rfl⟩
  obtain ⟨T, hT⟩ : ∃ T, T = Q.trimLen F := ⟨_, rfl⟩
  have hTn : T ≤ n := by rw [hT, hn]; exact Q.trimLen_le F
  have HT0 : Hid (∀ j, T ≤ j → F.getD j 0 = 0) := fun j hj => Q.trimLen_zero F j (by omega)
  have HT1 : Hid (0 < T → F.getD (T - 1) 0 ≠ 0) := fun h => by rw [hT]; exact Q.trimLen_last F (by omega)
  have HN := Lib.hid (And.intro hn hT)
  rw [← hn] at hl hcap ⊢
  clear hv hn hT
  obtain ⟨i0, hi, hz0, hz1, hz2⟩ := info_parts Tryz.infoZ
  go_enter Tryz.func53, Tryz.ntmps53
  go_wp2_with (fail)
  go_loopw [3] (fun iv wx => ∃ (k : Nat), iv = .int .i64 k ∧ T ≤ k ∧ k ≤ n ∧ wx = w) (fun iv _ => (intOf iv).toNat)
  case atStart => exact ⟨n, rfl, hTn, by omega, rfl⟩
  case round =>
    obtain ⟨k, rfl, hk1, hk2, rfl⟩ := hrel
    by_cases hlt : T < k
    · obtain ⟨j, rfl⟩ : ∃ j, k = j + 1 := ⟨k - 1, by omega⟩
      obtain ⟨b, rfl, hb, c⟩ := H1.out j (by have := HN.out.1; omega)
      rw [HT0.out j (by omega)] at c
      have hp : decide ((0 : Int) < ((j + 1 : Nat) : Int)) = true := by rw [decide_eq_true_iff]; omega
      have hj1 : ((j + 1 : Nat) : Int) - 1 = (j : Int) := by omega
      have hj2 : (j : Int) < (n : Int) := by omega
      go_wp2_with (fail)
      go_roundw
      case rel => exact ⟨j, by first | rfl | go_num, by omega, by omega, by first | rfl | trivial⟩
      case measure => simp [intOf]
    · obtain rfl : k = T := by omega
      have HNEXT : True := trivial
      have HF : Hid ((nats (F.take k)).length = k * 1) := by show _ = _; rw [nats_length, List.length_take, ← HN.out.1]; omega
      have HR : ∀ (v' : Value) (w1 : World), w1.ownsRow wr.heap.size 3 1 v' k (nats (F.take k)) → Below wr.heap.size wr w1 → NewL wr w1 v' (Q.trim F) ∧ Below wr.heap.size wr w1 := fun v' w1 h1 h2 => by
        refine ⟨?_, h2⟩
        unfold NewL
        rw [Q.trim_length, ← HN.out.2]
        have : Q.trim F = F.take k := by rw [HN.out.2]; rfl
        rw [this]; exact h1
      have HRR := Lib.hid HR
      clear HR
      by_cases h0 : k = 0
      · subst h0
        have hd0 : decide ((0 : Int) < ((0 : Nat) : Int)) = false := rfl
        rcases a with _ | ad
        · go_wp2_with (fail)
          go_ret
          exact ⟨⟨_, rfl, (HRR.out (.slice none 0 0) wr (World.ownsRow_nil _ _ _ _) (Below.refl _ _)).1⟩, Below.refl _ _⟩
        · go_wp2_with (at_builtin; refine wpList_append_own _ rfl _ _ 22 rfl wr.heap.size 3 i0 (.int .i64 0) 1 8 Tryz.underlying22 hi hz0 hz1 hz2 rfl (by decide) _ 0 [] rfl (World.ownsRow_nil _ _ _ _) ad 0 cap [] rfl rfl (by simp) (by simp) (by unfold maxLen; omega) (by omega) (by simp) ?_)
          intro v' w1 hown hgrow _
          have hB1 : Below wr.heap.size wr w1 := (Below.refl _ _).grown hgrow (Nat.le_refl _) (by intro g hg; simp [Value.ownBlock] at hg)
          have HR := Lib.hid (HRR.out v' w1 hown hB1)
          clear hown hgrow hB1
          go_wp2_with (fail)
          go_ret
          exact ⟨⟨_, rfl, HR.out.1⟩, HR.out.2⟩
      · obtain ⟨j, hj⟩ : ∃ j, k = j + 1 := ⟨k - 1, by omega⟩
        obtain ⟨b, rfl, hb, c⟩ := H1.out j (by have := HN.out.1; omega)
        obtain ⟨x, hx⟩ : ∃ x, x = F.getD j 0 := ⟨_, rfl⟩
        have hx0 : ((x : Int) == 0) = false := by
          rw [beq_eq_false_iff_ne, hx]
          have := HT1.out (by omega)
          rw [hj, Nat.add_sub_cancel] at this
          omega
        rw [← hx] at c
        have hp : decide ((0 : Int) < (k : Int)) = true := by rw [decide_eq_true_iff]; omega
        have hj1 : (k : Int) - 1 = (j : Int) := by omega
        have hj2 : (j : Int) < (n : Int) := by omega
        have HC : Hid (∀ i u, (nats (F.take k))[i]? = some u → wr.cell? ((⟨b, 0, none⟩ : Addr).add i) = some u) := take_cells (n := k) (fun i hi => H1.out i hi)
        have H1' := Lib.hid (nats_one (F.take k))
        clear hx hj
        go_wp2_with (at_builtin; refine wpList_append_own _ rfl _ _ 22 rfl wr.heap.size 3 i0 (.int .i64 0) 1 8 Tryz.underlying22 hi hz0 hz1 hz2 rfl (by decide) _ 0 [] rfl (World.ownsRow_nil _ _ _ _) ⟨b, 0, none⟩ k cap (nats (F.take k)) rfl HF.out HC.out H1'.out (by unfold maxLen; omega) (by omega) (by simp) ?_)
        intro v' w1 hown hgrow _
        have hB1 : Below wr.heap.size wr w1 := (Below.refl _ _).grown hgrow (Nat.le_refl _) (by intro g hg; simp [Value.ownBlock] at hg)
        have HR := Lib.hid (HRR.out v' w1 hown hB1)
        clear hown hgrow hB1
        go_wp2_with (fail)
        go_ret
        exact ⟨⟨_, rfl, HR.out.1⟩, HR.out.2⟩


/-- A list under way: k numbers are there. -/
def LSt (w wr : World) (v : Value) (F : List Nat) : Prop := NewL w wr v F ∧ Below w.heap.size w wr

theorem LSt.start (w : World) : LSt w w (.slice none 0 0) [] := ⟨NewL.nil _ _, Below.refl _ _⟩

theorem LSt.push {w wr w1 : World} {v v' : Value} {F : List Nat} {x k : Nat} {o : Obj} (h : LSt w wr v F) (hk : k = F.length + 1)
    (hown : w1.ownsRow w.heap.size 3 1 v' k (nats F ++ [.int .i64 (x : Int)])) (hg : (wr.alloc o).grownBy w1 v.ownBlock) : LSt w w1 v' (F ++ [x]) := by
  have hlt := h.1.lt
  refine ⟨?_, (h.2.alloc h.2.size o).grown hg (by have := h.2.size; simp; omega) (fun b hb => by have := (hlt b hb).1; omega)⟩
  unfold NewL
  rw [nats_append, show (F ++ [x]).length = k by simp; omega]
  exact hown

theorem LSt.shape {w wr : World} {v : Value} {F : List Nat} (h : LSt w wr v F) : ∃ a cap, v = .slice a F.length cap ∧ F.length ≤ cap ∧ cap ≤ 9223372036854775807 := by
  obtain ⟨a, cap, h1, h2, h3, _⟩ := own_form h.1
  exact ⟨a, cap, h1, h2, h3⟩

set_option maxRecDepth 100000 in
set_option maxHeartbeats 2000000 in
theorem rAdd_is (p : Nat) (F G : List Nat) (v1 v2 : Value) (w : World) (hp : 2 ≤ p) (hp2 : p ≤ 1021) (h1 : Hid (Rd w v1 1 F.length (nats F))) (h2 : Hid (Rd w v2 1 G.length (nats G))) (hF : Hid (Q.Red p F)) (hG : Hid (Q.Red p G)) (hl1 : F.length ≤ 100000) (hl2 : G.length ≤ 100000) :
    Calls Tryz.prog 52 #[.int .i64 p, v1, v2] w (RetL w (Q.sumP p F G)) := by
  obtain ⟨a1, cap1, hv1⟩ := h1.out.shape
  obtain ⟨a2, cap2, hv2⟩ := h2.out.shape
  subst hv1 hv2
  have hzp : ((p : Int) == 0) = false := by rw [beq_eq_false_iff_ne]; omega
  obtain ⟨C, hC⟩ : ∃ C, C = Q.comb (fun a b => (a + b) % p) F G := ⟨_, rfl⟩
  obtain ⟨n, hn⟩ : ∃ n, n = max F.length G.length := ⟨_, rfl⟩
  have hCl : C.length = n := by rw [hC, hn]; exact Q.comb_length _ _ _
  have hnb : n ≤ 100000 := by omega
  have hCg : Hid (∀ i, i < n → C.getD i 0 = (F.getD i 0 + G.getD i 0) % p) := fun i hi => by
    rw [hC, Q.comb_getD _ (by simp)]
  have hCC : Hid (C.length = n ∧ Q.trim C = Q.sumP p F G) := ⟨hCl, by rw [hC]; rfl⟩
  obtain ⟨m1, hm1⟩ : ∃ m1, m1 = F.length := ⟨_, rfl⟩
  obtain ⟨m2, hm2⟩ : ∃ m2, m2 = G.length := ⟨_, rfl⟩
  have hmx0 : max m1 m2 = n := by omega
  have hmx2 : max (m1 : Int) (m2 : Int) = (n : Int) := by omega
  have hmx : (if m1 < m2 then (m2 : Int) else (m1 : Int)) = (n : Int) := by split <;> omega
  rw [← hm1] at hl1
  rw [← hm2] at hl2
  have HM := Lib.hid (And.intro hm1 hm2)
  rw [← hm1] at h1
  rw [← hm2] at h2
  rw [← hm1, ← hm2]
  clear hC hCl hn hm1 hm2
  obtain ⟨i0, hi, hz0, hz1, hz2⟩ := info_parts Tryz.infoZ
  go_enter Tryz.func52, Tryz.ntmps52
  go_wp2_with (fail)
  go_loopw [7, 8] (fun lv iv wx => ∃ (k : Nat), iv = .int .i64 k ∧ k ≤ n ∧ Hid (LSt w wx lv (C.take k))) (fun _ iv _ => n - (intOf iv).toNat)
  case atStart => exact ⟨0, rfl, by omega, by show LSt _ _ _ _; rw [List.take_zero]; exact LSt.start w⟩
  case round =>
    obtain ⟨k, rfl, hk, HS⟩ := hrel
    have hkl : (C.take k).length = k := by rw [List.length_take, hCC.out.1]; omega
    obtain ⟨a3, cap3, hv3, hc3, hc4⟩ := HS.out.shape
    subst hv3
    rw [hkl] at HS hc3 ⊢
    by_cases hlt : k < n
    · have h1' : Hid (Rd wr (.slice a1 m1 cap1) 1 F.length (nats F)) := by show Rd _ _ _ _ _; rw [← HM.out.1]; exact h1.out.below HS.out.2 (Nat.le_refl _)
      have h2' : Hid (Rd wr (.slice a2 m2 cap2) 1 G.length (nats G)) := by show Rd _ _ _ _ _; rw [← HM.out.2]; exact h2.out.below HS.out.2 (Nat.le_refl _)
      obtain ⟨x, hx⟩ : ∃ x, x = F.getD k 0 := ⟨_, rfl⟩
      obtain ⟨y, hy⟩ : ∃ y, y = G.getD k 0 := ⟨_, rfl⟩
      have hxp : x < p := by rw [hx]; exact hF.out.getD (by omega) k
      have hyp : y < p := by rw [hy]; exact hG.out.getD (by omega) k
      have HXY := Lib.hid (And.intro hx hy)
      have hxy : ((x : Int) + (y : Int)) % (p : Int) = (((x + y) % p : Nat) : Int) := by rw [Int.natCast_emod, Int.natCast_add]
      have HT : Hid (C.take (k + 1) = C.take k ++ [(x + y) % p]) := by
        show _ = _
        rw [List.take_succ_eq_append_getElem (by rw [hCC.out.1]; exact hlt), ← Q.getD_get (by rw [hCC.out.1]; exact hlt), hCg.out k hlt, hx, hy]
      obtain ⟨z, hz⟩ : ∃ z, z = (x + y) % p := ⟨_, rfl⟩
      rw [← hz] at hxy HT
      have HOWN : Hid (wr.ownsRow w.heap.size 3 1 (.slice a3 k cap3) k (nats (C.take k))) := by
        have := HS.out.1; unfold NewL at this; rw [hkl] at this; exact this
      have HKL := Lib.hid hkl
      have hklt : (k : Int) < (n : Int) := by omega
      clear hx hy hz hkl
      go_wp2_with (fail)
      refine (at_is F k _ _ h1' (by have := HM.out.1; omega) (by omega)).mono ?_
      rintro e w' ⟨rfl, rfl⟩
      rw [← HXY.out.1]
      go_wp2_with (fail)
      refine (at_is G k _ _ h2' (by have := HM.out.2; omega) (by omega)).mono ?_
      rintro e w' ⟨rfl, rfl⟩
      rw [← HXY.out.2]
      go_wp2_with (at_builtin; refine wpList_append_own _ rfl _ _ 22 rfl w.heap.size 3 i0 (.int .i64 0) 1 8 Tryz.underlying22 hi hz0 hz1 hz2 rfl (by decide) _ _ _ rfl (HOWN.out.alloc _) ⟨w'.heap.size, 0, none⟩ 1 1 [.int .i64 z] rfl rfl ?c1 ?c2 ?c3 ?c4 ?c5 ?_)
      case c1 => exact cell_one_new _ _ _
      case c2 => intro u hu; simp at hu; rw [hu]; rfl
      case c3 => unfold maxLen; omega
      case c4 => omega
      case c5 => have := HS.out.2.size; simp; omega
      intro v' w3 hown3 hgrow3 _
      have HS4 : Hid (LSt w w3 v' (C.take (k + 1))) := by
        show LSt _ _ _ _
        rw [HT.out]
        exact HS.out.push (by rw [HKL.out]) hown3 hgrow3
      obtain ⟨a4, cap4, hv4, _⟩ := HS4.out.shape
      rw [List.length_take, hCC.out.1, show min (k + 1) n = k + 1 by omega] at hv4
      subst hv4
      clear hown3 hgrow3
      go_wp2_with (fail)
      go_roundw
      case rel => exact ⟨k + 1, by go_num, by omega, HS4⟩
      case measure => simp [intOf]; omega
    · obtain rfl : k = n := by omega
      have hCt : C.take k = C := List.take_of_length_le (by rw [hCC.out.1]; omega)
      rw [hCt] at HS
      have HRD : Hid (Rd wr (.slice a3 k cap3) 1 C.length (nats C)) := HS.out.1.rd
      clear hCt hkl
      go_wp2_with (fail)
      refine (rtrim_is C _ _ HRD (by rw [hCC.out.1]; omega)).mono ?_
      rintro e w5 ⟨⟨v5, rfl, hN5⟩, hB5⟩
      have HR : Hid (NewL w w5 v5 (Q.sumP p F G) ∧ Below w.heap.size w w5) := by
        rw [hCC.out.2] at hN5
        exact ⟨hN5.from HS.out.2.size, HS.out.2.trans (hB5.mono HS.out.2.size)⟩
      obtain ⟨a6, cap6, hv6⟩ := HR.out.1.rd.shape
      subst hv6
      clear hN5 hB5
      go_wp2_with (fail)
      go_ret
      exact ⟨⟨_, rfl, HR.out.1⟩, HR.out.2⟩

end Go.Proofs.YtbehihanhfmmhaaGreat

namespace Go.Proofs.YtbehihanhfmmhaaGreat
open Go.RowKit

set_option maxRecDepth 100000 in
set_option maxHeartbeats 1000000 in
theorem rPoly_is (p : Int) (v : Value) (Z : List Int) (t : Bool) (w : World) (hr : Hid (Rd w v 1 Z.length (zs Z))) (hlen : Z.length ≤ 1000000) (ht : Hid (polyB p Z = t)) :
    Calls Tryz.prog 8 #[.int .i64 p, v] w fun x w' => x = .returned (.bool t) ∧ w = w' := by
  obtain ⟨_, a, cap, hv, hcap, hcell⟩ := hr.out
  subst hv
  have HC := Lib.hid hcell
  clear hcell hr
  obtain ⟨m, hm⟩ : ∃ m, m = Z.length := ⟨_, rfl⟩
  have HM := Lib.hid hm
  rw [← hm] at hcap hlen ⊢
  clear hm
  by_cases h33 : m ≤ 33
  · have hd : decide ((33 : Int) < (m : Int)) = false := by simp; omega
    go_enter Tryz.func8, Tryz.ntmps8
    go_wp2_with (fail)
    go_loop [5] (fun i => ∃ (k : Nat), i = .int .i64 k ∧ k ≤ m ∧ Hid (∀ j (h : j < Z.length), j < k → 0 ≤ Z[j] ∧ Z[j] < p)) (fun i => m - (intOf i).toNat)
    case atStart => exact ⟨0, rfl, by omega, fun j _ hj => by omega⟩
    case round =>
      obtain ⟨k, rfl, hk, HK⟩ := hrel
      by_cases hlt : k < m
      · rcases HC.out with h0 | ⟨b, rfl, hb, hcell⟩
        · have := HM.out; omega
        have hkl : k < Z.length := by have := HM.out; omega
        have c0 : w.cell? ⟨b, k, none⟩ = some (.int .i64 Z[k]) := hcell _ _ (zs_get Z k hkl)
        clear hcell
        obtain ⟨c, hck⟩ : ∃ c, c = Z[k] := ⟨_, rfl⟩
        rw [← hck] at c0
        have HCK := Lib.hid hck
        clear hck
        by_cases hin : 0 ≤ c ∧ c < p
        · have HIN := Lib.hid hin
          have hd1 : decide (c < 0) = false := by rw [decide_eq_false_iff_not]; omega
          have hd2 : decide (p ≤ c) = false := by rw [decide_eq_false_iff_not]; omega
          clear hin
          go_wp2_with (fail)
          go_round
          case rel =>
            refine ⟨k + 1, by go_num, by omega, fun j hj hjk => ?_⟩
            by_cases e1 : j = k
            · subst e1; rw [← HCK.out]; exact HIN.out
            · exact HK.out j hj (by omega)
          case measure => simp [intOf]; omega
        · have HB : Hid ((decide (0 ≤ c) && decide (c < p)) = false) := by
            show _ = _
            rw [Bool.eq_false_iff]; intro h; simp at h; exact hin h
          have hf : Hid (t = false) := by
            show _ = _
            rw [← ht.out, polyB]
            have : (Z.all fun c => decide (0 ≤ c) && decide (c < p)) = false := by
              rw [List.all_eq_false]
              exact ⟨Z[k], List.getElem_mem hkl, by rw [← HCK.out, HB.out]; simp⟩
            rw [this]; simp
          by_cases hc0 : c < 0
          · have hd1 : decide (c < 0) = true := by rw [decide_eq_true_iff]; exact hc0
            clear hin
            go_wp2_with (fail)
            go_ret
            exact ⟨ret_bb hf.out.symm, rfl⟩
          · have hd1 : decide (c < 0) = false := by rw [decide_eq_false_iff_not]; exact hc0
            have hd2 : decide (p ≤ c) = true := by rw [decide_eq_true_iff]; omega
            clear hin
            go_wp2_with (fail)
            go_ret
            exact ⟨ret_bb hf.out.symm, rfl⟩
      · obtain rfl : k = m := by omega
        have hall : Hid ((Z.all fun c => decide (0 ≤ c) && decide (c < p)) = true) := by
          show _ = _
          rw [List.all_eq_true]
          intro x hx
          obtain ⟨j, hj, rfl⟩ := List.getElem_of_mem hx
          have := HK.out j hj (by have := HM.out; omega)
          simp [this.1, this.2]
        by_cases h0 : k = 0
        · have hz : ((k : Int) == 0) = true := by simp [h0]
          have hf : Hid (t = true) := by
            show _ = _
            have h1 := HM.out
            have h2 : (Z.length == 0) = true := by rw [beq_iff_eq]; omega
            have h3 : decide (Z.length ≤ 33) = true := decide_eq_true (by omega)
            rw [← ht.out, polyB, hall.out, h2, h3]; rfl
          clear h0
          go_wp2_with (fail)
          go_ret
          exact ⟨ret_bb hf.out.symm, rfl⟩
        · have hz : ((k : Int) == 0) = false := by simp; omega
          rcases HC.out with h1 | ⟨b, rfl, hb, hcell⟩
          · have := HM.out; omega
          have hkl : k - 1 < Z.length := by have := HM.out; omega
          have c0 : w.cell? ⟨b, k - 1, none⟩ = some (.int .i64 Z[k - 1]) := hcell _ _ (zs_get Z (k - 1) hkl)
          clear hcell
          obtain ⟨c, hck⟩ : ∃ c, c = Z[k - 1] := ⟨_, rfl⟩
          rw [← hck] at c0
          have hf : Hid (t = (c != 0)) := by
            show _ = _
            have h1 := HM.out
            have h2 : Z.getD (k - 1) 0 = c := by rw [hck]; simp [List.getD, hkl]
            rw [← ht.out, polyB, hall.out, ← h1, h2]
            have h3 : (k == 0) = false := by simpa using h0
            simp [h3, h33]
          clear hck
          have hk1 : (0 : Int) ≤ (k : Int) - 1 := by omega
          have hk2 : ((k : Int) - 1).toNat = k - 1 := by omega
          go_wp2_with (fail)
          go_ret
          exact ⟨ret_bb hf.out.symm, rfl⟩
  · have hd : decide ((33 : Int) < (m : Int)) = true := by simp; omega
    have hf : Hid (t = false) := by
      show _ = _
      have h1 := HM.out
      rw [← ht.out, polyB]
      have : decide (Z.length ≤ 33) = false := by simp; omega
      rw [this]; simp
    go_enter Tryz.func8, Tryz.ntmps8
    go_wp2_with (fail)
    go_ret
    exact ⟨ret_bb hf.out.symm, rfl⟩


set_option maxHeartbeats 1000000 in
theorem rField_is (p : Int) (t : Bool) (w : World) (ht : Hid (FieldI p ↔ t = true)) :
    Calls Tryz.prog 7 #[.int .i64 p] w fun x w' => x = .returned (.bool t) ∧ w = w' := by
  by_cases h2 : 2 ≤ p
  · by_cases h3 : p ≤ 1021
    · have hd1 : decide (2 ≤ p) = true := by simpa using h2
      have hd2 : decide (p ≤ 1021) = true := by simpa using h3
      cases t with
      | true =>
        have hf : Hid (PrI p) := ⟨h2, by omega, (ht.out.2 rfl).2.2⟩
        go_enter Tryz.func7, Tryz.ntmps7
        go_wp2_with (go_at_call 18; refine (Prime_yes p _ hf).mono ?_; rintro e w' ⟨rfl, rfl⟩)
        go_ret
        exact ⟨rfl, rfl⟩
      | false =>
        have hf : Hid (¬ PrI p) := fun h => by have := ht.out.1 ⟨h2, h3, h.2.2⟩; cases this
        go_enter Tryz.func7, Tryz.ntmps7
        go_wp2_with (go_at_call 18; refine (Prime_no p _ hf).mono ?_; rintro e w' ⟨rfl, rfl⟩)
        go_ret
        exact ⟨rfl, rfl⟩
    · have hd1 : decide (2 ≤ p) = true := by simpa using h2
      have hd2 : decide (p ≤ 1021) = false := by simpa using h3
      have hf : Hid (t = false) := by
        cases t with
        | false => rfl
        | true => exact absurd (ht.out.2 rfl).2.1 h3
      go_enter Tryz.func7, Tryz.ntmps7
      go_wp2_with (fail)
      go_ret
      exact ⟨ret_bb hf.out.symm, rfl⟩
  · have hd1 : decide (2 ≤ p) = false := by simpa using h2
    have hf : Hid (t = false) := by
      cases t with
      | false => rfl
      | true => exact absurd (ht.out.2 rfl).1 h2
    go_enter Tryz.func7, Tryz.ntmps7
    go_wp2_with (fail)
    go_ret
    exact ⟨ret_bb hf.out.symm, rfl⟩

set_option maxRecDepth 100000 in
set_option maxHeartbeats 2000000 in
theorem rScale_is (p c : Nat) (F : List Nat) (v1 : Value) (w : World) (hp : 2 ≤ p) (hp2 : p ≤ 1021) (hcp : c < p) (h1 : Hid (Rd w v1 1 F.length (nats F))) (hF : Hid (Q.Red p F)) (hl1 : F.length ≤ 100000) :
    Calls Tryz.prog 30 #[.int .i64 p, v1, .int .i64 c] w (RetL w (Q.scaleP p F c)) := by
  obtain ⟨_, a1, cap1, rfl, hcap1, _⟩ := h1.out
  have HC1 : Hid (∀ i, i < F.length → ∃ b, a1 = some ⟨b, 0, none⟩ ∧ b < w.heap.size ∧ w.cell? ⟨b, i, none⟩ = some (.int .i64 (F.getD i 0 : Nat))) := fun i hi => h1.out.at i hi
  have hzp : ((p : Int) == 0) = false := by rw [beq_eq_false_iff_ne]; omega
  obtain ⟨C, hC⟩ : ∃ C, C = Q.scaleL p F c := ⟨_, rfl⟩
  obtain ⟨n, hn⟩ : ∃ n, n = F.length := ⟨_, rfl⟩
  have hCg : Hid (∀ i, C.getD i 0 = F.getD i 0 * c % p) := fun i => by rw [hC, Q.scaleL_getD]
  have hCC : Hid (C.length = n ∧ Q.trim C = Q.scaleP p F c) := ⟨by rw [hC, hn]; exact Q.scaleL_length _ _ _, by rw [hC]; rfl⟩
  have HN := Lib.hid hn
  rw [← hn] at hl1 hcap1 ⊢
  clear hC hn h1
  obtain ⟨i0, hi, hz0, hz1, hz2⟩ := info_parts Tryz.infoZ
  go_enter Tryz.func30, Tryz.ntmps30
  go_wp2_with (fail)
  go_loopw [7, 8] (fun lv iv wx => ∃ (k : Nat), iv = .int .i64 k ∧ k ≤ n ∧ Hid (LSt w wx lv (C.take k))) (fun _ iv _ => n - (intOf iv).toNat)
  case atStart => exact ⟨0, rfl, by omega, by show LSt _ _ _ _; rw [List.take_zero]; exact LSt.start w⟩
  case round =>
    obtain ⟨k, rfl, hk, HS⟩ := hrel
    have hkl : (C.take k).length = k := by rw [List.length_take, hCC.out.1]; omega
    obtain ⟨a3, cap3, hv3, hc3, hc4⟩ := HS.out.shape
    subst hv3
    rw [hkl] at HS hc3 ⊢
    by_cases hlt : k < n
    · obtain ⟨b1, rfl, hb1, c1'⟩ := HC1.out k (by rw [← HN.out]; exact hlt)
      obtain ⟨x, hx⟩ : ∃ x, x = F.getD k 0 := ⟨_, rfl⟩
      have hxp : x < p := by rw [hx]; exact hF.out.getD (by omega) k
      have c1 : wr.cell? ⟨b1, k, none⟩ = some (.int .i64 (x : Int)) := by rw [HS.out.2.cell (p := ⟨b1, k, none⟩) hb1, c1', hx]
      have hxy : ((x : Int) * (c : Int)) % (p : Int) = (((x * c) % p : Nat) : Int) := by rw [Int.natCast_emod, Int.natCast_mul]
      have hm := mul_bd1021 x c p hxp hcp hp2
      have HT : Hid (C.take (k + 1) = C.take k ++ [(x * c) % p]) := by
        show _ = _
        rw [List.take_succ_eq_append_getElem (by rw [hCC.out.1]; exact hlt), ← Q.getD_get (by rw [hCC.out.1]; exact hlt), hCg.out k, hx]
      obtain ⟨z, hz⟩ : ∃ z, z = (x * c) % p := ⟨_, rfl⟩
      rw [← hz] at hxy HT
      have HOWN : Hid (wr.ownsRow w.heap.size 3 1 (.slice a3 k cap3) k (nats (C.take k))) := by
        have := HS.out.1; unfold NewL at this; rw [hkl] at this; exact this
      have HKL := Lib.hid hkl
      have hklt : (k : Int) < (n : Int) := by omega
      clear hx hz hkl c1'
      go_wp2_with (at_builtin; refine wpList_append_own _ rfl _ _ 22 rfl w.heap.size 3 i0 (.int .i64 0) 1 8 Tryz.underlying22 hi hz0 hz1 hz2 rfl (by decide) _ _ _ rfl (HOWN.out.alloc _) ⟨wr.heap.size, 0, none⟩ 1 1 [.int .i64 z] rfl rfl ?c1 ?c2 ?c3 ?c4 ?c5 ?_)
      case c1 => exact cell_one_new _ _ _
      case c2 => intro u hu; simp at hu; rw [hu]; rfl
      case c3 => unfold maxLen; omega
      case c4 => omega
      case c5 => have := HS.out.2.size; simp; omega
      intro v' w3 hown3 hgrow3 _
      have HS4 : Hid (LSt w w3 v' (C.take (k + 1))) := by
        show LSt _ _ _ _
        rw [HT.out]
        exact HS.out.push (by rw [HKL.out]) hown3 hgrow3
      obtain ⟨a4, cap4, hv4, _⟩ := HS4.out.shape
      rw [List.length_take, hCC.out.1, show min (k + 1) n = k + 1 by omega] at hv4
      subst hv4
      clear hown3 hgrow3
      go_wp2_with (fail)
      go_roundw
      case rel => exact ⟨k + 1, by go_num, by omega, HS4⟩
      case measure => simp [intOf]; omega
    · obtain rfl : k = n := by omega
      have hCt : C.take k = C := List.take_of_length_le (by rw [hCC.out.1]; omega)
      rw [hCt] at HS
      have HRD : Hid (Rd wr (.slice a3 k cap3) 1 C.length (nats C)) := HS.out.1.rd
      clear hCt hkl
      go_wp2_with (fail)
      refine (rtrim_is C _ _ HRD (by rw [hCC.out.1]; omega)).mono ?_
      rintro e w5 ⟨⟨v5, rfl, hN5⟩, hB5⟩
      have HR : Hid (NewL w w5 v5 (Q.scaleP p F c) ∧ Below w.heap.size w w5) := by
        rw [hCC.out.2] at hN5
        exact ⟨hN5.from HS.out.2.size, HS.out.2.trans (hB5.mono HS.out.2.size)⟩
      obtain ⟨a6, cap6, hv6⟩ := HR.out.1.rd.shape
      subst hv6
      clear hN5 hB5
      go_wp2_with (fail)
      go_ret
      exact ⟨⟨_, rfl, HR.out.1⟩, HR.out.2⟩

end Go.Proofs.YtbehihanhfmmhaaGreat

namespace Go.Proofs.YtbehihanhfmmhaaGreat
open Go.RowKit

set_option maxRecDepth 100000 in
set_option maxHeartbeats 1000000 in
theorem rSub_is (p : Nat) (F G : List Nat) (v1 v2 : Value) (w : World) (hp : 2 ≤ p) (hp2 : p ≤ 1021) (h1 : Hid (Rd w v1 1 F.length (nats F))) (h2 : Hid (Rd w v2 1 G.length (nats G))) (hF : Hid (Q.Red p F)) (hG : Hid (Q.Red p G)) (hl1 : F.length ≤ 100000) (hl2 : G.length ≤ 100000) :
    Calls Tryz.prog 25 #[.int .i64 p, v1, v2] w (RetL w (Q.difP p F G)) := by
  obtain ⟨a1, cap1, hv1⟩ := h1.out.shape
  obtain ⟨a2, cap2, hv2⟩ := h2.out.shape
  subst hv1 hv2
  obtain ⟨q, hq⟩ : ∃ q : Nat, q = p - 1 := ⟨_, rfl⟩
  have hq1 : (p : Int) - 1 = (q : Int) := by omega
  have HQ := Lib.hid hq
  have hqp : q < p := by omega
  have HSL := Lib.hid (Q.scaleP_le p G q)
  clear hq
  go_enter Tryz.func25, Tryz.ntmps25
  go_wp2_with (fail)
  refine (rScale_is p q G _ _ hp hp2 hqp h2 hG hl2).mono ?_
  rintro e w2 ⟨⟨v, rfl, hN⟩, hB⟩
  have HB := Lib.hid hB
  have HR : Hid (Rd w2 v 1 (Q.scaleP p G q).length (nats (Q.scaleP p G q))) := hN.rd
  have h1' : Hid (Rd w2 (.slice a1 F.length cap1) 1 F.length (nats F)) := h1.out.below hB (Nat.le_refl _)
  obtain ⟨a3, cap3, hv3⟩ := HR.out.shape
  subst hv3
  have HS : Hid (Q.Red p (Q.scaleP p G q)) := (Q.scaleP_pol (by omega) G q).red
  clear hN hB
  go_wp2_with (fail)
  refine (rAdd_is p F _ _ _ _ hp hp2 h1' HR hF HS hl1 (by have := HSL.out; omega)).mono ?_
  rintro e w3 ⟨⟨v3, rfl, hN⟩, hB⟩
  have HN : Hid (NewL w w3 v3 (Q.difP p F G) ∧ Below w.heap.size w w3) := by
    rw [HQ.out, Q.sub_is hp F hG.out] at hN
    exact ⟨hN.from HB.out.size, HB.out.trans (hB.mono HB.out.size)⟩
  obtain ⟨a4, cap4, hv4⟩ := HN.out.1.rd.shape
  subst hv4
  clear hN hB
  go_wp2_with (fail)
  go_ret
  exact ⟨⟨_, rfl, HN.out.1⟩, HN.out.2⟩

set_option maxHeartbeats 1000000 in
theorem rinverse_is (p a : Nat) (w : World) (hP : Hid (M.Pr p)) (hp2 : p ≤ 1021) (ha : a < p) (h0 : a ≠ 0) :
    Calls Tryz.prog 31 #[.int .i64 p, .int .i64 a] w fun x w' => x = .returned (.int .i64 (Q.invM p a : Nat)) ∧ w' = w := by
  have hi := Q.inv_spec hP.out ha h0
  have hi1 := hi.1
  have HI : Hid ((a : Int) * ((Q.invM p a : Nat) : Int) % (p : Int) = 1 % (p : Int)) := by
    show _ = _
    have h1 := hi.2.1
    have h2 : (1 : Nat) % p = 1 := Nat.mod_eq_of_lt hP.out.1
    rw [← h2] at h1
    exact_mod_cast h1
  obtain ⟨i, hii⟩ : ∃ i, i = Q.invM p a := ⟨_, rfl⟩
  rw [← hii] at HI hi1 ⊢
  clear hi hii
  go_enter Tryz.func31, Tryz.ntmps31
  go_wp2_with (fail)
  refine (Inverse_yes (a : Int) (p : Int) (i : Int) _ (by omega) (by omega) (by omega) (by omega) (by omega) HI).mono ?_
  rintro e w' ⟨rfl, rfl⟩
  go_wp2_with (fail)
  go_ret
  exact ⟨rfl, rfl⟩

theorem rMul_nil (p : Nat) (F G : List Nat) (v1 v2 : Value) (w : World) (h1 : Hid (Rd w v1 1 F.length (nats F))) (h2 : Hid (Rd w v2 1 G.length (nats G))) (h0 : F.length = 0 ∨ G.length = 0) :
    Calls Tryz.prog 51 #[.int .i64 p, v1, v2] w (RetL w (Q.prodP' p F G)) := by
  obtain ⟨_, a1, cap1, rfl, hcap1, _⟩ := h1.out
  obtain ⟨_, a2, cap2, rfl, hcap2, _⟩ := h2.out
  clear h1 h2
  have HP := Lib.hid (Q.prod_nil (p := p) h0)
  by_cases hf : F.length = 0
  · have hz : ((F.length : Int) == 0) = true := by simp [hf]
    clear hf h0
    go_enter Tryz.func51, Tryz.ntmps51
    go_wp2_with (fail)
    go_ret
    rw [HP.out]
    exact ⟨⟨_, rfl, NewL.nil _ _⟩, Below.refl _ _⟩
  · have hg : G.length = 0 := by omega
    have hz : ((F.length : Int) == 0) = false := by rw [beq_eq_false_iff_ne]; omega
    have hz2 : ((G.length : Int) == 0) = true := by simp [hg]
    clear hf hg h0
    go_enter Tryz.func51, Tryz.ntmps51
    go_wp2_with (fail)
    go_ret
    rw [HP.out]
    exact ⟨⟨_, rfl, NewL.nil _ _⟩, Below.refl _ _⟩

set_option maxRecDepth 100000 in
set_option maxHeartbeats 2000000 in
theorem rMul_some (p : Nat) (F G : List Nat) (v1 v2 : Value) (w : World) (hP : Hid (M.Pr p)) (hp2 : p ≤ 1021) (h1 : Hid (Rd w v1 1 F.length (nats F))) (h2 : Hid (Rd w v2 1 G.length (nats G)))
    (hF : Hid (Q.Pol p F)) (hG : Hid (Q.Pol p G)) (hl1 : F.length ≤ 100000) (hl2 : G.length ≤ 100000) (hf : F.length ≠ 0) (hg : G.length ≠ 0) :
    Calls Tryz.prog 51 #[.int .i64 p, v1, v2] w (RetL w (Q.prodP' p F G)) := by
  have hp : 2 ≤ p := hP.out.1
  obtain ⟨_, a1, cap1, rfl, hcap1, hcell1⟩ := h1.out
  obtain ⟨_, a2, cap2, rfl, hcap2, hcell2⟩ := h2.out
  rcases hcell1 with h0 | ⟨b1, rfl, hb1, hc1⟩
  · omega
  rcases hcell2 with h0 | ⟨b2, rfl, hb2, hc2⟩
  · omega
  have HC1 := Lib.hid hc1
  have HC2 := Lib.hid hc2
  clear hc1 hc2 h1 h2
  have HP := Lib.hid (Q.prodAt_done p F G hf hg)
  have HZ := Lib.hid (Q.prodAt_zero p F G)
  have HLN : Hid ((Q.prodP' p F G).length = F.length + G.length - 1 ∧ Q.trim (Q.prodP' p F G) = Q.prodP' p F G) := ⟨Q.prod_length hf hg, Q.trim_of_pol (Q.pol_prod hP.out hF.out hG.out)⟩
  obtain ⟨m1, hm1⟩ : ∃ m1, m1 = F.length := ⟨_, rfl⟩
  obtain ⟨m2, hm2⟩ : ∃ m2, m2 = G.length := ⟨_, rfl⟩
  rw [← hm1] at hl1 hcap1 hf ⊢
  rw [← hm2] at hl2 hcap2 hg ⊢
  have HM := Lib.hid (And.intro hm1 hm2)
  clear hm1 hm2
  have hz1 : ((m1 : Int) == 0) = false := by simp; omega
  have hz2 : ((m2 : Int) == 0) = false := by simp; omega
  have hzp : ((p : Int) == 0) = false := by simp; omega
  obtain ⟨n, hn⟩ : ∃ n, n = m1 + m2 - 1 := ⟨_, rfl⟩
  have hnn : (m1 : Int) + (m2 : Int) - 1 = (n : Int) := by omega
  have hnb : n ≤ 2000000 := by omega
  have HN := Lib.hid hn
  clear hn hf hg
  obtain ⟨i0, hi, hz0, hz3, hz4⟩ := info_parts Tryz.infoZ
  go_enter Tryz.func51, Tryz.ntmps51
  go_wp2_with (at_make; refine wpList_make_full _ rfl _ _ 22 rfl w.heap.size 3 i0 (.int .i64 0) 1 Tryz.underlying22 hi hz0 hz3 .i64 .i64 _ _ n rfl rfl rfl rfl (by rw [hz4]; omega) (by unfold maxLen; omega) (Nat.le_refl _) ?_)
  intro w0 hown0 hgrow0
  have HS0 : Hid (RSt w w0 w.heap.size n n (Q.prodAt p F G 0 0)) := by
    refine ⟨?_, below_of_grown hgrow0⟩
    rw [HZ.out, ← nats_zeros, ← HM.out.1, ← HM.out.2, ← HN.out]
    exact hown0
  clear hown0 hgrow0
  go_wp2_with (fail)
  go_loopw [8] (fun i wr => ∃ (k : Nat), i = .int .i64 k ∧ k ≤ m1 ∧ Hid (RSt w wr w.heap.size n n (Q.prodAt p F G k 0))) (fun i _ => m1 - (intOf i).toNat)
  case atStart => exact ⟨0, rfl, by omega, HS0⟩
  case round =>
    obtain ⟨k, rfl, hk, HS⟩ := hrel
    by_cases hlt : k < m1
    · have hkl : k < F.length := by have := HM.out.1; omega
      have hk1 : (k : Int) < (m1 : Int) := by omega
      go_wp2_with (fail)
      go_loopw [9] (fun i wr => ∃ (j : Nat), i = .int .i64 j ∧ j ≤ m2 ∧ Hid (RSt w wr w.heap.size n n (Q.prodAt p F G k j))) (fun i _ => m2 - (intOf i).toNat)
      case atStart => exact ⟨0, rfl, by omega, HS⟩
      case round =>
        obtain ⟨j, rfl, hj, HJ⟩ := hrel
        by_cases hjl : j < m2
        · have hjl2 : j < G.length := by have := HM.out.2; omega
          obtain ⟨x, hx⟩ : ∃ x, x = F.getD k 0 := ⟨_, rfl⟩
          have hxp : x < p := by rw [hx]; exact hF.out.red.getD (by omega) k
          have c1 : wr.cell? ⟨b1, k, none⟩ = some (.int .i64 (x : Int)) := by
            rw [HJ.out.below.cell (p := ⟨b1, k, none⟩) hb1, HC1.out _ _ (nats_get F k hkl), hx, Q.getD_get hkl]
          obtain ⟨y, hy⟩ : ∃ y, y = G.getD j 0 := ⟨_, rfl⟩
          have hyp : y < p := by rw [hy]; exact hG.out.red.getD (by omega) j
          have c2 : wr.cell? ⟨b2, j, none⟩ = some (.int .i64 (y : Int)) := by
            rw [HJ.out.below.cell (p := ⟨b2, j, none⟩) hb2, HC2.out _ _ (nats_get G j hjl2), hy, Q.getD_get hjl2]
          have hkj : k + j < n := by have := HN.out; omega
          have hkj2 : (k : Int) + (j : Int) < (n : Int) := by omega
          have hkj3 : ((k : Int) + (j : Int)).toNat = k + j := by omega
          obtain ⟨t, ht⟩ : ∃ t : Nat, t = k + j := ⟨_, rfl⟩
          have hkj4 : (k : Int) + (j : Int) = (t : Int) := by omega
          have hkj5 : IntKind.i64.wrap (t : Int) = (t : Int) := IntWalk.i64_in _ (by omega)
          have hkj6 : IntKind.i64.wrap ((k : Int) + (j : Int)) = (t : Int) := by rw [hkj4]; exact hkj5
          have htn : (t : Int) < (n : Int) := by omega
          have htn2 : t < n := by omega
          rw [← ht] at hkj hkj3
          obtain ⟨z, hz⟩ : ∃ z, z = (Q.prodAt p F G k j).getD t 0 := ⟨_, rfl⟩
          have hzp' : z < p := by rw [hz]; exact (Q.prodAt_red p (by omega) F G k j).getD (by omega) _
          have c3 : wr.cell? ⟨w.heap.size, t, none⟩ = some (.int .i64 (z : Int)) := by rw [HJ.out.cell hkj, hz]
          have hfr : wr.frozen? ⟨w.heap.size, t, none⟩ = false := HJ.out.free _
          have hm := mul_bd1021 x y p hxp hyp hp2
          obtain ⟨u, hu⟩ : ∃ u : Nat, u = (z + x * y) % p := ⟨_, rfl⟩
          have hue : ((z : Int) + (x : Int) * (y : Int)) % (p : Int) = (u : Int) := by rw [hu]; simp
          have hw1 : IntKind.i64.wrap ((x : Int) * (y : Int)) = (x : Int) * (y : Int) := IntWalk.i64_in _ (by omega)
          have hw2 : IntKind.i64.wrap ((z : Int) + (x : Int) * (y : Int)) = (z : Int) + (x : Int) * (y : Int) := IntWalk.i64_in _ (by omega)
          have hend : Hid (∀ W, W = wr ∨ W = wr → True) := fun _ _ => trivial
          have hst : Hid (RSt w (wr.setCell ⟨w.heap.size, t, none⟩ (.int .i64 (u : Int))) w.heap.size n n (Q.prodAt p F G k (j + 1))) := by
            show RSt _ _ _ _ _ _
            rw [← Q.prodAt_step p F G k j hkl hjl2, ← ht, ← hz, ← hy, ← hx, ← hu]
            exact HJ.out.set _ _
          have hk3 : (k : Int) < (m1 : Int) := by omega
          have hj3 : (j : Int) < (m2 : Int) := by omega
          clear hz hy hx hu ht
          go_wp2_with (fail)
          go_region
          all_goals
            go_wp2_with (fail)
            go_roundw
            case rel => exact ⟨j + 1, by go_num, by omega, by first | exact hst | exact hst.out.low (Below.refl _ _).drew | exact hst.out.low (below_drewN (Below.refl _ _) _)⟩
            case measure => simp [intOf]; omega
        · obtain rfl : j = m2 := by omega
          have HJ' : Hid (RSt w wr w.heap.size n n (Q.prodAt p F G (k + 1) 0)) := by have := HJ.out; rw [HM.out.2, Q.prodAt_next] at this; exact this
          go_wp2_with (fail)
          go_roundw
          case rel => exact ⟨k + 1, by go_num, by omega, HJ'⟩
          case measure => simp [intOf]; omega
    · obtain rfl : k = m1 := by omega
      have HR : Hid (RSt w wr w.heap.size n n (Q.prodP' p F G)) := by have := HS.out; rw [HM.out.1, HP.out] at this; exact this
      have HRD : Hid (Rd wr (.slice (some ⟨w.heap.size, 0, none⟩) n n) 1 (Q.prodP' p F G).length (nats (Q.prodP' p F G))) := HR.out.new.rd
      go_wp2_with (fail)
      refine (rtrim_is _ _ _ HRD (by have := HLN.out.1; have := HM.out; have := HN.out; omega)).mono ?_
      rintro e w5 ⟨⟨v5, rfl, hN5⟩, hB5⟩
      have HRR : Hid (NewL w w5 v5 (Q.prodP' p F G) ∧ Below w.heap.size w w5) := by
        rw [HLN.out.2] at hN5
        exact ⟨hN5.from HR.out.below.size, HR.out.below.trans (hB5.mono HR.out.below.size)⟩
      obtain ⟨a6, cap6, hv6⟩ := HRR.out.1.rd.shape
      subst hv6
      clear hN5 hB5
      go_wp2_with (fail)
      go_ret
      exact ⟨⟨_, rfl, HRR.out.1⟩, HRR.out.2⟩

theorem rMul_is (p : Nat) (F G : List Nat) (v1 v2 : Value) (w : World) (hP : Hid (M.Pr p)) (hp2 : p ≤ 1021) (h1 : Hid (Rd w v1 1 F.length (nats F))) (h2 : Hid (Rd w v2 1 G.length (nats G)))
    (hF : Hid (Q.Pol p F)) (hG : Hid (Q.Pol p G)) (hl1 : F.length ≤ 100000) (hl2 : G.length ≤ 100000) :
    Calls Tryz.prog 51 #[.int .i64 p, v1, v2] w (RetL w (Q.prodP' p F G)) := by
  by_cases h0 : F.length = 0 ∨ G.length = 0
  · exact rMul_nil p F G v1 v2 w h1 h2 h0
  · exact rMul_some p F G v1 v2 w hP hp2 h1 h2 hF hG hl1 hl2 (by omega) (by omega)

end Go.Proofs.YtbehihanhfmmhaaGreat

namespace Go.Proofs.YtbehihanhfmmhaaGreat
open Go.RowKit

theorem lit2 (w : World) (a b : Nat) (T : TypeId) : Rd (w.alloc (.cells #[.int .i64 (a : Int), .int .i64 (b : Int)] T)) (.slice (some ⟨w.heap.size, 0, none⟩) 2 2) 1 2 (nats [a, b]) := by
  refine ⟨rfl, _, _, rfl, Nat.le_refl _, .inr ⟨w.heap.size, rfl, by simp, fun j u hu => ?_⟩⟩
  match j, hu with
  | 0, hu => simp [nats] at hu; subst hu; simp
  | 1, hu => simp [nats] at hu; subst hu; simp
  | j + 2, hu => simp [nats] at hu

theorem lit3 (w : World) (a b c : Nat) (T : TypeId) : Rd (w.alloc (.cells #[.int .i64 (a : Int), .int .i64 (b : Int), .int .i64 (c : Int)] T)) (.slice (some ⟨w.heap.size, 0, none⟩) 3 3) 1 3 (nats [a, b, c]) := by
  refine ⟨rfl, _, _, rfl, Nat.le_refl _, .inr ⟨w.heap.size, rfl, by simp, fun j u hu => ?_⟩⟩
  match j, hu with
  | 0, hu => simp [nats] at hu; subst hu; simp
  | 1, hu => simp [nats] at hu; subst hu; simp
  | 2, hu => simp [nats] at hu; subst hu; simp
  | j + 3, hu => simp [nats] at hu

theorem lit4 (w : World) (a b c d : Nat) (T : TypeId) : Rd (w.alloc (.cells #[.int .i64 (a : Int), .int .i64 (b : Int), .int .i64 (c : Int), .int .i64 (d : Int)] T)) (.slice (some ⟨w.heap.size, 0, none⟩) 4 4) 1 4 (nats [a, b, c, d]) := by
  refine ⟨rfl, _, _, rfl, Nat.le_refl _, .inr ⟨w.heap.size, rfl, by simp, fun j u hu => ?_⟩⟩
  match j, hu with
  | 0, hu => simp [nats] at hu; subst hu; simp
  | 1, hu => simp [nats] at hu; subst hu; simp
  | 2, hu => simp [nats] at hu; subst hu; simp
  | 3, hu => simp [nats] at hu; subst hu; simp
  | j + 4, hu => simp [nats] at hu

theorem Mul_awake (w : World) (v1 v2 : Value) (h1 : Hid (Rd w v1 1 2 (nats [2, 1]))) (h2 : Hid (Rd w v2 1 2 (nats [3, 1]))) :
    Calls Tryz.prog 19 #[.int .i64 5, v1, v2] w (RetE w [1, 0, 1]) := by
  have h := Mul_ok 5 [2, 1] [3, 1] v1 v2 w awake_pr5 (by omega) h1 h2 (Q.pol_dec (by decide +kernel) (by decide +kernel)) (Q.pol_dec (by decide +kernel) (by decide +kernel)) (by decide) (by decide) (by rw [Q.awake_prod]; decide)
  rw [Q.awake_prod] at h
  exact h

/-- What the law sees of Factor's result. -/
theorem Factor_awake (w : World) (v : Value) (h1 : Hid (Rd w v 1 3 (nats [1, 0, 1]))) :
    Calls Tryz.prog 5 #[.int .i64 5, v] w fun x w' => (∃ (g cap : Nat) (u : Value), x = .returned (.tuple #[.int .i64 1, .slice (some ⟨g, 0, none⟩) 2 cap, .int .i64 0]) ∧ w'.cell? ⟨g, 0, none⟩ = some u ∧ Rd w' u 1 2 (nats [2, 1])) ∧ Below w.heap.size w w' := by
  refine (Factor_ok 5 [1, 0, 1] v w awake_pr5 (by omega) h1 (Q.pol_dec (by decide +kernel) (by decide +kernel)) (by decide) (by decide)).mono ?_
  rintro x w' ⟨v', L, fin, rfl, hF, hfin, hperm, hsort⟩
  rw [awake_monic] at hfin
  have hL : strip L = [([2, 1], 1), ([3, 1], 1)] := by
    have hne : ¬ ((strip L) = [([3, 1], 1), ([2, 1], 1)]) := fun e => by
      rw [e] at hsort
      have := (List.pairwise_cons.1 hsort).1 ([2, 1], 1) (by simp)
      exact this (by decide +kernel)
    have hp2 : (strip L).Perm [([2, 1], 1), ([3, 1], 1)] := by
      rcases awake_fact34 with h | h
      · rw [h] at hfin; injection hfin with hfin; rw [← hfin] at hperm; exact hperm.trans (List.Perm.swap ..)
      · rw [h] at hfin; injection hfin with hfin; rw [← hfin] at hperm; exact hperm
    have hlen := hp2.length_eq
    match hL : strip L, hp2, hlen with
    | [a, b], hp2, _ =>
      have ha : a ∈ [(([2, 1] : List Nat), 1), ([3, 1], 1)] := hp2.subset (by simp)
      have hb : b ∈ [(([2, 1] : List Nat), 1), ([3, 1], 1)] := hp2.subset (by simp)
      have h3 := hp2.nodup_iff.2 (by decide)
      simp at ha hb
      rcases ha with rfl | rfl <;> rcases hb with rfl | rfl
      · simp at h3
      · rfl
      · exact absurd hL hne
      · simp at h3
  have hLl : L.length = 2 := by have := congrArg List.length hL; simpa [strip] using this
  match L, hL, hLl, hF with
  | [], _, hLl, _ => simp at hLl
  | [_], _, hLl, _ => simp at hLl
  | _ :: _ :: _ :: _, _, hLl, _ => simp at hLl
  | [x1, x2], hL, _, hF =>
    obtain ⟨u1, M1, e1⟩ := x1
    obtain ⟨u2, M2, e2⟩ := x2
    simp [strip] at hL
    obtain ⟨⟨rfl, rfl⟩, rfl, rfl⟩ := hL
    obtain ⟨a, cap, hv, _, _, hblk⟩ := own_form hF.own
    obtain ⟨g, rfl, _, _⟩ := hblk (by simp)
    simp only [List.length_cons, List.length_nil] at hv
    subst hv
    have hc := hF.own.cellAt 0 (by simp)
    have hr := (hF.rows (u1, [2, 1], 1) (by simp)).rd hF.below
    refine ⟨⟨g, cap, u1, rfl, ?_, hr⟩, hF.below⟩
    rw [hc]; simp [flatF]

theorem Count_awake (w : World) : Calls Tryz.prog 20 #[.int .i64 2, .int .i64 3] w fun x w' => x = .returned (.tuple #[.int .i64 2, .int .i64 0]) ∧ Below w.heap.size w w' := by
  have e : Q.countP 2 3 3 = 2 := by decide +kernel
  have h := Count_ok 2 3 w awake_pr2 (by omega) (by omega) (by omega) (by show _ ≤ _; decide) (by show _ ≤ _; rw [e]; decide)
  rw [e] at h
  exact h

theorem First_awake (w : World) : Calls Tryz.prog 21 #[.int .i64 2, .int .i64 3] w (RetE w [1, 1, 0, 1]) :=
  First_ok 2 3 9 [1, 1, 0, 1] w awake_pr2 (by omega) (by omega) (by omega) awake_firstOk

set_option maxRecDepth 100000 in
set_option maxHeartbeats 4000000 in
theorem awake_is (w : World) : Calls Tryz.prog 9 #[] w fun x w' => x = .returned (.bool true) ∧ Below w.heap.size w w' := by
  have HA : Hid (Below w.heap.size w ((w.alloc (.cells #[.int .i64 2, .int .i64 1] 3)).alloc (.cells #[.int .i64 3, .int .i64 1] 3))) := ((Below.refl _ _).alloc (Nat.le_refl _) _).alloc (by simp) _
  have HR2 : Hid (Rd ((w.alloc (.cells #[.int .i64 2, .int .i64 1] 3)).alloc (.cells #[.int .i64 3, .int .i64 1] 3)) (.slice (some ⟨w.heap.size + 1, 0, none⟩) 2 2) 1 2 (nats [3, 1])) := by
    have h := lit2 (w.alloc (.cells #[.int .i64 2, .int .i64 1] 3)) 3 1 3
    rw [World.size_alloc] at h
    exact h
  have HR1 : Hid (Rd ((w.alloc (.cells #[.int .i64 2, .int .i64 1] 3)).alloc (.cells #[.int .i64 3, .int .i64 1] 3)) (.slice (some ⟨w.heap.size, 0, none⟩) 2 2) 1 2 (nats [2, 1])) :=
    (lit2 w 2 1 3).below ((Below.refl _ _).alloc (Nat.le_refl _) _) (Nat.le_refl _)
  go_enter Tryz.func9, Tryz.ntmps9
  go_wp2_with (fail)
  refine (Mul_awake _ _ _ HR1 HR2).mono ?_
  rintro e w1 ⟨⟨vm, rfl, hN⟩, hB⟩
  have HB1 := Lib.hid (HA.out.trans (hB.mono (by simp; omega)))
  have HN1 : Hid (NewL w w1 vm [1, 0, 1]) := hN.from HA.out.size
  obtain ⟨a1, c1, hv1⟩ := hN.rd.shape
  subst hv1
  have HRf : Hid (Rd (w1.alloc (.cells #[.int .i64 1, .int .i64 0, .int .i64 1] 3)) (.slice (some ⟨w1.heap.size, 0, none⟩) 3 3) 1 3 (nats [1, 0, 1])) := lit3 w1 1 0 1 3
  clear hN hB HR1 HR2
  go_wp2_with (fail)
  refine (Factor_awake _ _ HRf).mono ?_
  rintro e w2 ⟨⟨g, cap, u, rfl, hcell, hu⟩, hB⟩
  have HB2' : Hid (Below w1.heap.size w1 w2) := ((Below.refl _ _).alloc (Nat.le_refl _) _).trans (hB.mono (by simp))
  have HB2 := Lib.hid (HB1.out.trans (HB2'.out.mono HB1.out.size))
  have HN2 : Hid (NewL w w2 (.slice a1 3 c1) [1, 0, 1]) := HN1.out.keep HB2'.out
  obtain ⟨a2, c2, hv2⟩ := hu.shape
  subst hv2
  have HU := Lib.hid (And.intro hcell hu)
  clear hcell hu hB HB1 HN1 HB2' HRf
  go_wp2_with (fail)
  refine (Count_awake _).mono ?_
  rintro e w3 ⟨rfl, hB⟩
  have HB3 := Lib.hid (HB2.out.trans (hB.mono HB2.out.size))
  have HN3 : Hid (NewL w w3 (.slice a1 3 c1) [1, 0, 1]) := HN2.out.keep hB
  have hgl := World.block_lt_of_cell? w2 _ HU.out.1
  have HU3 : Hid (w3.cell? ⟨g, 0, none⟩ = some (.slice a2 2 c2) ∧ Rd w3 (.slice a2 2 c2) 1 2 (nats [2, 1])) := ⟨by rw [hB.cell (p := ⟨g, 0, none⟩) hgl]; exact HU.out.1, HU.out.2.below hB (Nat.le_refl _)⟩
  clear hB HN2 HU hgl HB2
  go_wp2_with (fail)
  refine (First_awake _).mono ?_
  rintro e w4 ⟨⟨vf, rfl, hN⟩, hB⟩
  have HB4 := Lib.hid (HB3.out.trans (hB.mono HB3.out.size))
  have HN4 : Hid (NewL w w4 (.slice a1 3 c1) [1, 0, 1]) := HN3.out.keep hB
  have hgl := World.block_lt_of_cell? w3 _ HU3.out.1
  have HU4 : Hid (w4.cell? ⟨g, 0, none⟩ = some (.slice a2 2 c2) ∧ Rd w4 (.slice a2 2 c2) 1 2 (nats [2, 1])) := ⟨by rw [hB.cell (p := ⟨g, 0, none⟩) hgl]; exact HU3.out.1, HU3.out.2.below hB (Nat.le_refl _)⟩
  have HF4 : Hid (NewL w w4 vf [1, 1, 0, 1]) := hN.from HB3.out.size
  obtain ⟨a4, c4, hv4⟩ := hN.rd.shape
  subst hv4
  have HRs : Hid (Rd (w4.alloc (.cells #[.int .i64 1, .int .i64 0, .int .i64 1] 3)) (.slice (some ⟨w4.heap.size, 0, none⟩) 3 3) 1 3 (nats [1, 0, 1])) := lit3 w4 1 0 1 3
  have HRm : Hid (Rd (w4.alloc (.cells #[.int .i64 1, .int .i64 0, .int .i64 1] 3)) (.slice a1 3 c1) 1 3 (nats [1, 0, 1])) := HN4.out.rd.below ((Below.refl _ _).alloc (Nat.le_refl _) _) (Nat.le_refl _)
  clear hB hN HN3 HU3 hgl HB3
  go_wp2_with (fail)
  refine (Same_is [1, 0, 1] [1, 0, 1] _ _ true _ HRm HRs (by decide) (by decide) ⟨fun _ => rfl, fun _ => rfl⟩).mono ?_
  rintro e w5 ⟨rfl, n5, hw5⟩
  have HB45 : Hid (Below w4.heap.size w4 w5) := by rw [hw5]; exact below_drewN ((Below.refl _ _).alloc (Nat.le_refl _) _) _
  have HB5 := Lib.hid (HB4.out.trans (HB45.out.mono HB4.out.size))
  have hgl := World.block_lt_of_cell? w4 _ HU4.out.1
  have hc5 : w5.cell? ⟨g, 0, none⟩ = some (.slice a2 2 c2) := by rw [HB45.out.cell (p := ⟨g, 0, none⟩) hgl]; exact HU4.out.1
  have HS1 : Hid (Rd (w5.alloc (.cells #[.int .i64 2, .int .i64 1] 3)) (.slice (some ⟨w5.heap.size, 0, none⟩) 2 2) 1 2 (nats [2, 1])) := lit2 w5 2 1 3
  have HS2 : Hid (Rd (w5.alloc (.cells #[.int .i64 2, .int .i64 1] 3)) (.slice a2 2 c2) 1 2 (nats [2, 1])) := (HU4.out.2.below HB45.out (Nat.le_refl _)).below ((Below.refl _ _).alloc (Nat.le_refl _) _) (Nat.le_refl _)
  have HF5 : Hid (NewL w w5 (.slice a4 4 c4) [1, 1, 0, 1]) := HF4.out.keep HB45.out
  have hcg : (w5.alloc (.cells #[.int .i64 2, .int .i64 1] 3)).cell? ⟨g, 0, none⟩ = some (.slice a2 2 c2) := by
    rw [((Below.refl w5.heap.size w5).alloc (Nat.le_refl _) _).cell (p := ⟨g, 0, none⟩) (Nat.lt_of_lt_of_le hgl HB45.out.size)]; exact hc5
  clear hw5 hgl HB4 HRs HRm HN4 HU4 HF4
  go_wp2_with (fail)
  refine (Same_is [2, 1] [2, 1] _ _ true _ HS2 HS1 (by decide) (by decide) ⟨fun _ => rfl, fun _ => rfl⟩).mono ?_
  rintro e w6 ⟨rfl, n6, hw6⟩
  have HB56 : Hid (Below w5.heap.size w5 w6) := by rw [hw6]; exact below_drewN ((Below.refl _ _).alloc (Nat.le_refl _) _) _
  have HB6 := Lib.hid (HB5.out.trans (HB56.out.mono HB5.out.size))
  have HT1 : Hid (Rd (w6.alloc (.cells #[.int .i64 1, .int .i64 1, .int .i64 0, .int .i64 1] 3)) (.slice (some ⟨w6.heap.size, 0, none⟩) 4 4) 1 4 (nats [1, 1, 0, 1])) := lit4 w6 1 1 0 1 3
  have HT2 : Hid (Rd (w6.alloc (.cells #[.int .i64 1, .int .i64 1, .int .i64 0, .int .i64 1] 3)) (.slice a4 4 c4) 1 4 (nats [1, 1, 0, 1])) := (HF5.out.keep HB56.out).rd.below ((Below.refl _ _).alloc (Nat.le_refl _) _) (Nat.le_refl _)
  clear hw6 HS1 HS2 HB5 hc5 hcg HF5
  go_wp2_with (fail)
  refine (Same_is [1, 1, 0, 1] [1, 1, 0, 1] _ _ true _ HT2 HT1 (by decide) (by decide) ⟨fun _ => rfl, fun _ => rfl⟩).mono ?_
  rintro e w7 ⟨rfl, n7, hw7⟩
  have HB67 : Hid (Below w6.heap.size w6 w7) := by rw [hw7]; exact below_drewN ((Below.refl _ _).alloc (Nat.le_refl _) _) _
  have HB7 := Lib.hid (HB6.out.trans (HB67.out.mono HB6.out.size))
  clear hw7 HT1 HT2 HB6
  go_wp2_with (fail)
  go_ret
  exact ⟨rfl, HB7.out⟩

end Go.Proofs.YtbehihanhfmmhaaGreat

namespace Go.Proofs.YtbehihanhfmmhaaGreat
open Go.RowKit

set_option maxRecDepth 100000 in
set_option maxHeartbeats 1000000 in
theorem Irreducible_ok (p : Nat) (F : List Nat) (v : Value) (w : World) (hP : Hid (M.Pr p)) (hp2 : p ≤ 1021) (h1 : Hid (Rd w v 1 F.length (nats F))) (hF : Hid (Q.Pol p F)) (hl1 : F.length ≤ 33) :
    Calls Tryz.prog 6 #[.int .i64 p, v] w fun e w' => e = .returned (.tuple #[.bool (Q.irredP p F), .int .i64 0]) ∧ Below w.heap.size w w' := by
  have hM := Lib.hid (rdM1 (T := 22) h1.out.zs)
  have hB : Hid (Below w.heap.size w (w.alloc (.cells #[v] 22))) := (Below.refl _ _).alloc (Nat.le_refl _) _
  have hls : Hid (∀ Z ∈ [up F], Z.length ≤ 1000000) := by intro Z hZ; simp at hZ; subst hZ; rw [up_length]; omega
  have ht : Hid (Args1 p (up F)) := args1_of hP.out hp2 hF.out hl1
  obtain ⟨a1, cap1, rfl⟩ := h1.out.shape
  go_enter Tryz.func6, Tryz.ntmps6
  go_wp2_with (fail)
  refine (arePolys_yes p _ [up F] _ hM (by simp) hls ht).mono ?_
  rintro e w1 ⟨rfl, hB1⟩
  have HB := Lib.hid (hB.out.trans (hB1.mono (by simp)))
  have h1' : Hid (Rd w1 (.slice a1 F.length cap1) 1 F.length (nats F)) := h1.out.below HB.out (Nat.le_refl _)
  clear hB1 hM h1
  go_wp2_with (fail)
  refine (isIrreducible_is p F _ _ hP hp2 h1' hF (by omega)).mono ?_
  rintro e w2 ⟨rfl, hB2⟩
  have HB2 := Lib.hid (HB.out.trans (hB2.mono HB.out.size))
  clear hB2
  go_wp2_with (fail)
  go_ret2
  exact ⟨rfl, HB2.out⟩

set_option maxRecDepth 100000 in
set_option maxHeartbeats 2000000 in
theorem rLess_is (F G : List Nat) (v u : Value) (t : Bool) (w : World) (hv : Hid (Rd w v 1 F.length (nats F))) (hu : Hid (Rd w u 1 G.length (nats G))) (hl : F.length ≤ 1000000) (hl2 : G.length ≤ 1000000) (ht : Hid (Q.ordP F G < 0 ↔ t = true)) :
    Calls Tryz.prog 55 #[v, u] w fun x w' => x = .returned (.bool t) ∧ ∃ n, w' = w.drewN n := by
  obtain ⟨_, a1, cap1, rfl, hcap1, _⟩ := hv.out
  obtain ⟨_, a2, cap2, rfl, hcap2, _⟩ := hu.out
  have H1 : Hid (∀ i, i < F.length → ∃ b, a1 = some ⟨b, 0, none⟩ ∧ b < w.heap.size ∧ w.cell? ⟨b, i, none⟩ = some (.int .i64 (F.getD i 0 : Nat))) := fun i hi => hv.out.at i hi
  have H2 : Hid (∀ i, i < G.length → ∃ b, a2 = some ⟨b, 0, none⟩ ∧ b < w.heap.size ∧ w.cell? ⟨b, i, none⟩ = some (.int .i64 (G.getD i 0 : Nat))) := fun i hi => hu.out.at i hi
  clear hv hu
  obtain ⟨m1, hm1⟩ : ∃ m1, m1 = F.length := ⟨_, rfl⟩
  obtain ⟨m2, hm2⟩ : ∃ m2, m2 = G.length := ⟨_, rfl⟩
  rw [← hm1] at hl hcap1 H1 ⊢
  rw [← hm2] at hl2 hcap2 H2 ⊢
  have HM := Lib.hid (And.intro hm1 hm2)
  clear hm1 hm2
  by_cases he : m1 = m2
  · subst he
    have hd : ((m1 : Int) != (m1 : Int)) = false := by simp
    have HS0 : Hid (Q.ordP (F.drop m1) (G.drop m1) = 0) := by
      have h := HM.out
      rw [List.drop_of_length_le (by omega), List.drop_of_length_le (by omega)]; rfl
    go_enter Tryz.func55, Tryz.ntmps55
    go_wp2_with (fail)
    go_loopw [5] (fun iv wx => ∃ (k m : Nat), iv = .int .i64 ((k : Int) - 1) ∧ k ≤ m1 ∧ Hid (Q.ordP (F.drop k) (G.drop k) = 0) ∧ wx = w.drewN m) (fun iv _ => match iv with | .int _ t => (t + 1).toNat | _ => 0)
    case atStart => exact ⟨m1, 0, by go_num, by omega, HS0, by first | rfl | trivial | simp⟩
    case round =>
      obtain ⟨k, m, rfl, hk, HK, rfl⟩ := hrel
      rcases k with _ | k
      · have htf : Hid (t = false) := by
          have h := HK.out
          rw [List.drop_zero, List.drop_zero] at h
          cases t with
          | false => rfl
          | true => have := ht.out.2 rfl; omega
        go_wp2_with (fail)
        go_ret
        exact ⟨by rw [htf.out]; rfl, _, rfl⟩
      · obtain ⟨b1, rfl, hb1, c1⟩ := H1.out k (by omega)
        obtain ⟨b2, rfl, hb2, c2⟩ := H2.out k (by omega)
        obtain ⟨x, hx⟩ : ∃ x, x = F.getD k 0 := ⟨_, rfl⟩
        obtain ⟨y, hy⟩ : ∃ y, y = G.getD k 0 := ⟨_, rfl⟩
        rw [← hx] at c1
        rw [← hy] at c2
        have hD : Q.ordP (F.drop k) (G.drop k) = Lib.compareInt (x : Int) (y : Int) := by
          have h := HM.out
          rw [Q.ordP_drop F G k (by omega) (by omega), if_pos HK.out, hx, hy]
        have HD := Lib.hid hD
        have hkl : (k : Int) < (m1 : Int) := by omega
        have hk1 : ((k + 1 : Nat) : Int) - 1 = (k : Int) := by omega
        have hge : decide ((0 : Int) ≤ (k : Int)) = true := by simp
        rw [hk1]
        clear hx hy hD
        by_cases hxy : x = y
        · have hd2 : ((x : Int) != (y : Int)) = false := by rw [hxy]; simp
          have HK2 : Hid (Q.ordP (F.drop k) (G.drop k) = 0) := by
            show _ = _
            rw [HD.out, hxy]; unfold Lib.compareInt; simp
          clear hxy
          go_wp2_with (fail)
          go_quiet (fail)
          go_wp2_with (fail)
          go_roundw
          case rel => exact ⟨k, _, by go_num, by omega, HK2, rfl⟩
          case measure => simp
        · have hd2 : ((x : Int) != (y : Int)) = true := by rw [bne_iff_ne]; omega
          have hne : Q.ordP (F.drop k) (G.drop k) ≠ 0 := by
            rw [HD.out]; unfold Lib.compareInt
            split
            · omega
            · split <;> omega
          have hord : Q.ordP F G = Lib.compareInt (x : Int) (y : Int) := by
            have h := HM.out
            rw [Q.ordP_ne k F G (by omega) (by omega) hne, HD.out]
          have HT : Hid (decide (x < y) = t) := by
            have h := ht.out
            rw [hord] at h
            unfold Lib.compareInt at h
            show _ = _
            cases t with
            | true =>
              have := h.2 rfl
              rw [decide_eq_true_iff]
              split at this
              · omega
              · split at this <;> omega
            | false =>
              rw [decide_eq_false_iff_not]
              intro hlt
              have := h.1 (by rw [if_pos (by omega)]; omega)
              cases this
          clear hxy hne hord
          go_wp2_with (fail)
          go_quiet (fail)
          go_wp2_with (fail)
          go_quiet (fail)
          go_wp2_with (fail)
          go_ret
          rw [← HT.out]
          exact ⟨by first | rfl | simp, _, by first | rfl | exact World.drewN_drewN _ _ _ | (rw [World.drewN_drewN, World.drewN_drewN])⟩
  · have hd : ((m1 : Int) != (m2 : Int)) = true := by rw [bne_iff_ne]; omega
    have htt : Hid (decide (m1 < m2) = t) := by
      have h := HM.out
      have h2 := ht.out
      show _ = _
      rcases Nat.lt_or_ge m1 m2 with h3 | h3
      · rw [h2.1 (by rw [Q.ordP_lt (by omega)]; omega)]; simpa using h3
      · have h4 : ¬ Q.ordP F G < 0 := by rw [Q.ordP_gt (by omega)]; omega
        cases t with
        | false => simpa using h3
        | true => exact absurd (h2.2 rfl) h4
    clear he
    go_enter Tryz.func55, Tryz.ntmps55
    go_wp2_with (fail)
    go_ret
    rw [← htt.out]
    exact ⟨by first | rfl | simp, 0, rfl⟩

/-- A list of factors that can be read. -/
structure RdFac (w : World) (v : Value) (L : List FacE) : Prop where
  rd : Rd w v 2 L.length (flatF L)
  rows : ∀ x ∈ L, Rd w x.1 1 x.2.1.length (nats x.2.1)
theorem RdFac.below {w w' : World} {v : Value} {L : List FacE} (h : RdFac w v L) (hB : Below w.heap.size w w') : RdFac w' v L :=
  ⟨h.rd.below hB (Nat.le_refl _), fun x hx => (h.rows x hx).below hB (Nat.le_refl _)⟩
theorem RdFac.of {w w' : World} {v : Value} {L : List FacE} (h : FcS w w' v L) : RdFac w' v L := ⟨Rd.of_own h.own, fun x hx => (h.rows x hx).rd h.below⟩
theorem RdFac.shape {w : World} {v : Value} {L : List FacE} (h : RdFac w v L) : ∃ a c, v = .slice a L.length c ∧ L.length ≤ c := by
  obtain ⟨_, a, cap, h2, h3, _⟩ := h.rd
  exact ⟨a, cap, h2, h3⟩
theorem flatF_two (L : List FacE) (k : Nat) (h : k < L.length) : (flatF L)[k * 2]? = some L[k].1 ∧ (flatF L)[k * 2 + 1]? = some (.int .i64 (L[k].2.2 : Int)) := by
  have h1 := flatF_get L (k * 2) (by omega)
  have h2 := flatF_get L (k * 2 + 1) (by omega)
  have e1 : k * 2 / 2 = k := by omega
  have e2 : (k * 2 + 1) / 2 = k := by omega
  have e3 : k * 2 % 2 = 0 := by omega
  have e4 : (k * 2 + 1) % 2 = 1 := by omega
  simp only [e1, e3] at h1
  simp only [e2, e4] at h2
  exact ⟨h1, h2⟩

/-- An entry: its two cells, and its polynomial. -/
structure HasF (w : World) (a : Option Addr) (L : List FacE) (k : Nat) (h : k < L.length) (b : Nat) (x : Option Addr) (c : Nat) : Prop where
  eq : a = some ⟨b, 0, none⟩
  lt : b < w.heap.size
  c0 : w.cell? ⟨b, k * 2, none⟩ = some (.slice x L[k].2.1.length c)
  c1 : w.cell? ⟨b, k * 2 + 1, none⟩ = some (.int .i64 (L[k].2.2 : Int))
  rd : Rd w (.slice x L[k].2.1.length c) 1 L[k].2.1.length (nats L[k].2.1)
theorem RdFac.at {w : World} {a : Option Addr} {n c : Nat} {L : List FacE} (h : RdFac w (.slice a n c) L) (k : Nat) (hk : k < L.length) : ∃ b x c, HasF w a L k hk b x c := by
  obtain ⟨_, a', cap, h2, _, h4⟩ := h.rd
  injection h2 with h2
  subst h2
  rcases h4 with h0 | ⟨b, rfl, hb, hcell⟩
  · omega
  · have hf := flatF_two L k hk
    have hr := h.rows _ (List.getElem_mem hk)
    obtain ⟨x, cx, hx⟩ := hr.shape
    refine ⟨b, x, cx, rfl, hb, ?_, hcell _ _ hf.2, ?_⟩
    · rw [← hx]; exact hcell _ _ hf.1
    · rw [← hx]; exact hr

end Go.Proofs.YtbehihanhfmmhaaGreat

namespace Go.Proofs.YtbehihanhfmmhaaGreat
open Go.RowKit

theorem HasF.below {w w' : World} {a : Option Addr} {L : List FacE} {k : Nat} {h : k < L.length} {b : Nat} {x : Option Addr} {c : Nat} (H : HasF w a L k h b x c) (hB : Below w.heap.size w w') : HasF w' a L k h b x c :=
  ⟨H.eq, Nat.lt_of_lt_of_le H.lt hB.size, by rw [hB.cell (p := ⟨b, k * 2, none⟩) H.lt]; exact H.c0, by rw [hB.cell (p := ⟨b, k * 2 + 1, none⟩) H.lt]; exact H.c1, H.rd.below hB (Nat.le_refl _)⟩
theorem strip_get (L : List FacE) (k : Nat) (h : k < L.length) : (strip L)[k]'(by simpa [strip] using h) = L[k].2 := by simp [strip]
theorem strip_len (L : List FacE) : (strip L).length = L.length := by simp [strip]

end Go.Proofs.YtbehihanhfmmhaaGreat
namespace Go.Proofs.YtbehihanhfmmhaaGreat
open Go.RowKit

theorem Q.dif_le' (p : Nat) (hp : 0 < p) (f g : List Nat) : (Q.difP p f g).length ≤ max f.length g.length := Q.dif_len hp

end Go.Proofs.YtbehihanhfmmhaaGreat
namespace Go.Proofs.YtbehihanhfmmhaaGreat
open Go.RowKit

theorem Q.trim_take {F : List Nat} {n : Nat} (h : ∀ i, n ≤ i → F.getD i 0 = 0) {p : Nat} (_hp : 0 < p) (hr : Q.Red p F) : Q.trim F = Q.trim (F.take n) := by
  refine hr.trim.ext (hr.take n).trim fun i => ?_
  rw [Q.trim_getD, Q.trim_getD, Q.getD_take]
  split
  · rfl
  · next h1 => exact h i (by omega)

set_option maxRecDepth 100000 in
set_option maxHeartbeats 1000000 in
theorem rDiv_short (p : Nat) (F G : List Nat) (v1 v2 : Value) (w : World) (h1 : Hid (Rd w v1 1 F.length (nats F))) (h2 : Hid (Rd w v2 1 G.length (nats G))) (hF : Hid (Q.trim F = F)) (hl1 : F.length ≤ 100000) (hlt : F.length < G.length) :
    Calls Tryz.prog 27 #[.int .i64 p, v1, v2] w (RetD w [] F) := by
  obtain ⟨_, a1, cap1, rfl, hcap1, _⟩ := h1.out
  obtain ⟨_, a2, cap2, rfl, hcap2, _⟩ := h2.out
  have HC1 : Hid (∀ i, i < F.length → ∃ b, a1 = some ⟨b, 0, none⟩ ∧ b < w.heap.size ∧ w.cell? ⟨b, i, none⟩ = some (.int .i64 (F.getD i 0 : Nat))) := fun i hi => h1.out.at i hi
  obtain ⟨i0, hi, hz0, hz1, hz2⟩ := info_parts Tryz.infoZ
  have hd : decide (F.length < G.length) = true := by simpa using hlt
  have hd2 : decide ((F.length : Int) < (G.length : Int)) = true := by rw [decide_eq_true_iff]; omega
  have H1' := Lib.hid (nats_one F)
  have HLN : Hid ((nats F).length = F.length * 1) := by show _ = _; rw [nats_length]; omega
  have HRR : Hid (∀ (v' : Value) (w1 : World), w1.ownsRow w.heap.size 3 1 v' F.length (nats F) → Below w.heap.size w w1 → NewL w w1 v' F ∧ Below w.heap.size w w1) := fun v' w1 h1 h2 => ⟨h1, h2⟩
  clear h1 h2
  rcases a1 with _ | ad
  · have hF0 : F = [] := by
      cases F with
      | nil => rfl
      | cons x F => obtain ⟨b, h, _⟩ := HC1.out 0 (by simp); cases h
    subst hF0
    go_enter Tryz.func27, Tryz.ntmps27
    go_wp2_with (fail)
    refine (rtrim_is [] _ _ ⟨rfl, _, _, rfl, Nat.zero_le _, .inl rfl⟩ (by simp)).mono ?_
    rintro e w5 ⟨⟨v5, rfl, hN5⟩, hB5⟩
    have HR : Hid (NewL w w5 v5 [] ∧ Below w.heap.size w w5) := ⟨hN5, hB5⟩
    obtain ⟨a6, cap6, hv6⟩ := hN5.rd.shape
    subst hv6
    clear hN5 hB5
    go_wp2_with (fail)
    go_ret2
    exact ⟨⟨_, _, rfl, NewL.nil _ _, HR.out.1⟩, HR.out.2⟩
  · have HC : Hid (∀ j u, (nats F)[j]? = some u → w.cell? (ad.add j) = some u) := fun j u hu => by
      have := take_cells (n := F.length) HC1.out j u
      rw [List.take_length] at this
      exact this hu
    go_enter Tryz.func27, Tryz.ntmps27
    go_wp2_with (at_builtin; refine wpList_append_own _ rfl _ _ 22 rfl w.heap.size 3 i0 (.int .i64 0) 1 8 Tryz.underlying22 hi hz0 hz1 hz2 rfl (by decide) _ 0 [] rfl (World.ownsRow_nil _ _ _ _) ad F.length cap1 (nats F) rfl HLN.out HC.out H1'.out (by unfold maxLen; omega) (by omega) (by simp) ?_)
    intro v' w1 hown hgrow _
    have hB1 : Below w.heap.size w w1 := (Below.refl _ _).grown hgrow (Nat.le_refl _) (by intro g hg; simp [Value.ownBlock] at hg)
    have HN1 : Hid (NewL w w1 v' F ∧ Below w.heap.size w w1) := ⟨by unfold NewL; simpa using hown, hB1⟩
    obtain ⟨a6, cap6, hv6⟩ := HN1.out.1.rd.shape
    subst hv6
    have HRD : Hid (Rd w1 (.slice a6 F.length cap6) 1 F.length (nats F)) := HN1.out.1.rd
    clear hown hgrow hB1
    go_wp2_with (fail)
    refine (rtrim_is F _ _ HRD (by omega)).mono ?_
    rintro e w5 ⟨⟨v5, rfl, hN5⟩, hB5⟩
    rw [hF.out] at hN5
    have HR : Hid (NewL w w5 v5 F ∧ Below w.heap.size w w5) := ⟨hN5.from HN1.out.2.size, HN1.out.2.trans (hB5.mono HN1.out.2.size)⟩
    obtain ⟨a7, cap7, hv7⟩ := hN5.rd.shape
    subst hv7
    clear hN5 hB5
    go_wp2_with (fail)
    go_ret2
    exact ⟨⟨_, _, rfl, NewL.nil _ _, HR.out.1⟩, HR.out.2⟩

set_option maxRecDepth 100000 in
set_option maxHeartbeats 2000000 in
theorem rDiv_long (p : Nat) (F G : List Nat) (v1 v2 : Value) (w : World) (hP : Hid (M.Pr p)) (hp2 : p ≤ 1021) (h1 : Hid (Rd w v1 1 F.length (nats F))) (h2 : Hid (Rd w v2 1 G.length (nats G)))
    (hF : Hid (Q.Pol p F)) (hG : Hid (Q.Pol p G)) (hl1 : F.length ≤ 100000) (hg0 : G.length ≠ 0) (hge : G.length ≤ F.length) :
    Calls Tryz.prog 27 #[.int .i64 p, v1, v2] w (RetD w (Q.divP p F G).1 (Q.divP p F G).2) := by
  have hp : 2 ≤ p := hP.out.1
  obtain ⟨_, a1, cap1, rfl, hcap1, hcell1⟩ := h1.out
  obtain ⟨_, a2, cap2, rfl, hcap2, hcell2⟩ := h2.out
  rcases hcell1 with h0 | ⟨b1, rfl, hb1, hc1⟩
  · omega
  rcases hcell2 with h0 | ⟨b2, rfl, hb2, hc2⟩
  · omega
  have HC2 := Lib.hid hc2
  have HCF : Hid (∀ j u, (nats F)[j]? = some u → w.cell? ((⟨b1, 0, none⟩ : Addr).add j) = some u) := fun j u hu => by
    have hadd : (⟨b1, 0, none⟩ : Addr).add j = ⟨b1, j, none⟩ := by unfold Addr.add; split <;> simp_all
    rw [hadd]; exact hc1 j u hu
  clear hc2 hc1 h1 h2
  have hne := hG.out.ne hg0
  have hgp : G.getD (G.length - 1) 0 < p := hG.out.red.getD (by omega) _
  obtain ⟨gl, hgl⟩ : ∃ gl, gl = G.getD (G.length - 1) 0 := ⟨_, rfl⟩
  rw [← hgl] at hne hgp
  have hcl : w.cell? ⟨b2, G.length - 1, none⟩ = some (.int .i64 (gl : Int)) := by
    have e : G.getD (G.length - 1) 0 = G[G.length - 1] := Q.getD_get (by omega)
    rw [HC2.out _ _ (nats_get G (G.length - 1) (by omega)), ← e, ← hgl]
  obtain ⟨inv, hinv⟩ : ∃ inv, inv = Q.invM p gl := ⟨_, rfl⟩
  have hinvs := Q.inv_spec hP.out hgp hne
  have hinvp : inv < p := by rw [hinv]; exact hinvs.1
  obtain ⟨fin, hfin⟩ : ∃ fin, fin = Q.divLoopR p inv G (F.length - (G.length - 1)) F [] := ⟨_, rfl⟩
  have hfl : fin = Q.divLoop p inv G (F.length - (G.length - 1)) F [] := by rw [hfin]; exact Q.divLoopR_is (by omega) inv G _ F [] hF.out.red
  have HFIN := Lib.hid hfin
  have hdo := Q.divLoop_ok hp hg0 hG.out.red (inv := inv) (by rw [hinv, ← hgl]; exact hinvs.2.1) (F.length - (G.length - 1)) F [] hF.out.red (by omega) (fun k hk => Q.getD_out (by omega))
  rw [← hfl] at hdo
  have HE : Hid (Q.divP p F G = (fin.2, Q.trim fin.1)) := by
    show _ = _
    rw [Q.divP, if_neg (by omega), ← hgl, ← hinv, ← hfl, Q.trim_take hdo.top (by omega) hdo.red]
  have hdi := Q.div_is hP.out hF.out hG.out hg0
  have HQT : Hid (Q.trim fin.2 = fin.2) := by
    have := hdi.qpol; rw [HE.out] at this; exact Q.trim_of_pol this
  have HINV := Lib.hid hinv
  clear hfin hfl hinvs hinv hdo hdi
  obtain ⟨m1, hm1⟩ : ∃ m1, m1 = F.length := ⟨_, rfl⟩
  obtain ⟨m2, hm2⟩ : ∃ m2, m2 = G.length := ⟨_, rfl⟩
  have HM := Lib.hid (And.intro hm1 hm2)
  have HGL := Lib.hid hgl
  rw [HE.out]
  rw [← hm1] at hl1 hge hcap1 ⊢
  rw [← hm2] at hcap2 hg0 hge hcl ⊢
  have HNF : Hid ((nats F).length = m1 * 1) := by show _ = _; rw [nats_length, hm1]; omega
  have HOF := Lib.hid (nats_one F)
  clear hm1 hm2 hgl
  have hdec : decide (m1 < m2) = false := by simpa using hge
  have hdec2 : decide ((m1 : Int) < (m2 : Int)) = false := by rw [decide_eq_false_iff_not]; omega
  obtain ⟨lst, hlst⟩ : ∃ lst, m2 = lst + 1 := ⟨m2 - 1, by omega⟩
  have hl2 : (m2 : Int) - 1 = (lst : Int) := by omega
  have hl3 : (lst : Int) < (m2 : Int) := by omega
  obtain ⟨N, hN⟩ : ∃ N, N = m1 - lst := ⟨_, rfl⟩
  have hNN : (m1 : Int) - (m2 : Int) + 1 = (N : Int) := by omega
  have hNb : N ≤ 1000000 := by omega
  have hN1 : N + lst = m1 := by omega
  rw [show m2 - 1 = lst by omega] at hcl
  clear hN hlst
  obtain ⟨i0, hi, hz0, hz3, hz4⟩ := info_parts Tryz.infoZ
  have HCL := Lib.hid hcl
  clear hcl
  go_enter Tryz.func27, Tryz.ntmps27
  go_wp2_with (at_builtin; refine wpList_append_own _ rfl _ _ 22 rfl w.heap.size 3 i0 (.int .i64 0) 1 8 Tryz.underlying22 hi hz0 hz3 hz4 rfl (by decide) _ 0 [] rfl (World.ownsRow_nil _ _ _ _) ⟨b1, 0, none⟩ m1 cap1 (nats F) rfl HNF.out HCF.out HOF.out (by unfold maxLen; omega) (by omega) (by simp) ?_)
  intro v' w1 hown hgrow _
  have hB1 : Below w.heap.size w w1 := (Below.refl _ _).grown hgrow (Nat.le_refl _) (by intro g hg; simp [Value.ownBlock] at hg)
  have hown' : w1.ownsRow w.heap.size 3 1 v' m1 (nats F) := by simpa using hown
  obtain ⟨ar, capr, hvr, hcr, hcr2, hblk⟩ := own_form hown'
  obtain ⟨gr, har, hgr1, hgr2⟩ := hblk (by omega)
  subst hvr har
  have HR1 : Hid (RSt w w1 gr m1 capr F) := ⟨hown', hB1⟩
  have hcl1 : w1.cell? ⟨b2, lst, none⟩ = some (.int .i64 (gl : Int)) := by rw [hB1.cell (p := ⟨b2, lst, none⟩) hb2]; exact HCL.out
  clear hown hgrow hB1 hown' hblk
  go_wp2_with (at_make; refine wpList_make_full _ rfl _ _ 22 rfl w.heap.size 3 i0 (.int .i64 0) 1 Tryz.underlying22 hi hz0 hz3 .i64 .i64 _ _ N rfl rfl rfl rfl (by rw [hz4]; omega) (by unfold maxLen; omega) HR1.out.below.size ?_)
  intro w2 hown2 hgrow2
  obtain ⟨gq, hgq⟩ : ∃ gq, gq = w1.heap.size := ⟨_, rfl⟩
  have hB12 : Below w1.heap.size w1 w2 := below_of_grown hgrow2
  have HR2 : Hid (RSt w w2 gr m1 capr F) := HR1.out.low hB12
  have hcl2 : w2.cell? ⟨b2, lst, none⟩ = some (.int .i64 (gl : Int)) := by
    rw [hB12.cell (p := ⟨b2, lst, none⟩) (Nat.lt_of_lt_of_le hb2 HR1.out.below.size)]; exact hcl1
  have HQ2 : Hid (RSt w w2 gq N N (List.replicate N 0)) := by
    refine ⟨?_, HR2.out.below⟩
    rw [← nats_zeros, hgq]
    exact hown2
  clear hown2 hgrow2
  rw [← hgq] at hgr2 ⊢
  have hgrq : gr ≠ gq := by omega
  have hwq : w.heap.size ≤ gq := by have := HR1.out.below.size; omega
  have HI : Hid (∀ W : World, Calls Tryz.prog 31 #[.int .i64 p, .int .i64 gl] W fun x w' => x = .returned (.int .i64 (inv : Int)) ∧ w' = W) := fun W => by rw [HINV.out]; exact rinverse_is p gl W hP hp2 hgp hne
  clear hB12 hgq hcl1
  go_wp2_with (fail)
  refine (HI.out _).mono ?_
  rintro e w2' ⟨rfl, hw2⟩
  subst hw2
  clear hcl2
  go_wp2_with (fail)
  go_loopw [11] (fun i wr => ∃ (k : Int) (j : Nat) (R q : List Nat), i = .int .i64 k ∧ Hid (k = (j : Int) - 1) ∧ j ≤ N ∧ Hid (RSt w wr gr m1 capr R) ∧ Hid (RSt w wr gq N N (List.replicate j 0 ++ q)) ∧ Hid (Q.Red p R) ∧ Hid (fin = Q.divLoopR p inv G j R q)) (fun i _ => (intOf i + 1).toNat)
  case atStart => exact ⟨_, N, F, [], rfl, by show _ = _; rfl, by omega, HR2, (by show RSt _ _ _ _ _ _; rw [List.append_nil]; exact HQ2.out), hF.out.red, (by show _ = _; rw [HFIN.out, ← HM.out.1, ← HM.out.2]; congr 1; omega)⟩
  case round =>
    obtain ⟨k, j, R, q, rfl, HK, hj, HR, HQ, HRed, HF⟩ := hrel
    by_cases hj0 : j = 0
    · subst hj0
      have hk := HK.out
      obtain rfl : k = -1 := by omega
      have hfe : Hid (fin.1 = R ∧ fin.2 = q) := by have := HF.out; rw [Q.divLoopR] at this; rw [this]; exact ⟨rfl, rfl⟩
      have hql : Hid (RSt w wr gq N N q) := by have := HQ.out; rw [List.replicate_zero, List.nil_append] at this; exact this
      have HQD : Hid (Rd wr (.slice (some ⟨gq, 0, none⟩) N N) 1 q.length (nats q)) := hql.out.new.rd
      have HRD : Hid (Rd wr (.slice (some ⟨gr, 0, none⟩) m1 capr) 1 R.length (nats R)) := HR.out.new.rd
      have HLL : Hid (q.length = N ∧ R.length = m1) := ⟨hql.out.len, HR.out.len⟩
      clear hk
      go_wp2_with (fail)
      refine (rtrim_is q _ _ HQD (by have := HLL.out; omega)).mono ?_
      rintro e w5 ⟨⟨v5, rfl, hN5⟩, hB5⟩
      have HB5 := Lib.hid (HR.out.below.trans (hB5.mono HR.out.below.size))
      have HN5 : Hid (NewL w w5 v5 fin.2) := by
        have := hN5.from HR.out.below.size
        rw [← hfe.out.2, HQT.out] at this; exact this
      have HRD5 : Hid (Rd w5 (.slice (some ⟨gr, 0, none⟩) m1 capr) 1 R.length (nats R)) := HRD.out.below hB5 (Nat.le_refl _)
      obtain ⟨a6, cap6, hv6⟩ := hN5.rd.shape
      subst hv6
      clear hN5 hB5
      go_wp2_with (fail)
      refine (rtrim_is R _ _ HRD5 (by have := HLL.out; omega)).mono ?_
      rintro e w6 ⟨⟨v6, rfl, hN6⟩, hB6⟩
      have HB6 := Lib.hid (HB5.out.trans (hB6.mono HB5.out.size))
      have HN6 : Hid (NewL w w6 v6 (Q.trim fin.1)) := by
        have := hN6.from HB5.out.size
        rw [← hfe.out.1] at this; exact this
      have HN56 : Hid (NewL w w6 (.slice a6 (Q.trim q).length cap6) fin.2) := HN5.out.keep hB6
      obtain ⟨a7, cap7, hv7⟩ := hN6.rd.shape
      subst hv7
      clear hN6 hB6
      go_wp2_with (fail)
      go_ret2
      exact ⟨⟨_, _, rfl, HN56.out, HN6.out⟩, HB6.out⟩
    · obtain ⟨i, rfl⟩ : ∃ i, j = i + 1 := ⟨j - 1, by omega⟩
      obtain rfl : k = (i : Int) := by have := HK.out; omega
      have hiN : i < N := by omega
      have hil : i + lst < m1 := by omega
      have hil3 : (i : Int) + (m2 : Int) - 1 = ((i + lst : Nat) : Int) := by omega
      obtain ⟨t, ht⟩ : ∃ t : Nat, t = i + lst := ⟨_, rfl⟩
      rw [← ht] at hil hil3
      have htm : (t : Int) < (m1 : Int) := by omega
      obtain ⟨z, hz⟩ : ∃ z, z = R.getD t 0 := ⟨_, rfl⟩
      have hzp : z < p := by rw [hz]; exact HRed.out.getD (by omega) _
      have c1 : wr.cell? ⟨gr, t, none⟩ = some (.int .i64 (z : Int)) := by rw [HR.out.cell hil, hz]
      obtain ⟨c, hc⟩ : ∃ c, c = z * inv % p := ⟨_, rfl⟩
      have hcp : c < p := by rw [hc]; exact Nat.mod_lt _ (by omega)
      have hcc : (z : Int) * (inv : Int) % (p : Int) = (c : Int) := by rw [hc]; simp
      have hm := mul_bd1021 z inv p hzp hinvp hp2
      have hzp0 : ((p : Int) == 0) = false := by simp; omega
      have HC : Hid (R.getD (i + (G.length - 1)) 0 * inv % p = c) := by show _ = _; rw [← HM.out.2, show i + (m2 - 1) = t by omega, ← hz, hc]
      have hq1 : wr.cell? ⟨gq, i, none⟩ = some (.int .i64 ((List.replicate (i + 1) 0 ++ q).getD i 0 : Nat)) := HQ.out.cell hiN
      have hq2 : wr.frozen? ⟨gq, i, none⟩ = false := HQ.out.free i
      obtain ⟨old, hold⟩ : ∃ old, old = (List.replicate (i + 1) 0 ++ q).getD i 0 := ⟨_, rfl⟩
      rw [← hold] at hq1
      have HQ' : Hid (RSt w (wr.setCell ⟨gq, i, none⟩ (.int .i64 (c : Int))) gq N N (List.replicate i 0 ++ (c :: q))) := by
        have := HQ.out.set i c; rw [Q.set_repl] at this; exact this
      have HR' : Hid (RSt w (wr.setCell ⟨gq, i, none⟩ (.int .i64 (c : Int))) gr m1 capr R) := HR.out.other hwq hgrq _
      have HFF : Hid (fin = Q.divLoopR p inv G i (Q.takeAway p c i G R) (c :: q)) := by
        have h := HF.out
        rw [Q.divLoopR, HC.out] at h
        exact h
      have hiN2 : (i : Int) < (N : Int) := by omega
      have hi0 : decide ((0 : Int) ≤ (i : Int)) = true := by rw [decide_eq_true_iff]; omega
      have HTL := Lib.hid ht
      clear hold hc hz ht
      go_wp2_with (fail)
      generalize wr.setCell ⟨gq, i, none⟩ (.int .i64 (c : Int)) = ws at HQ' HR' ⊢
      obtain ⟨T, hT⟩ : ∃ T, T = p - c := ⟨_, rfl⟩
      have hTT : (p : Int) - (c : Int) = (T : Int) := by omega
      have hTb : T ≤ 1021 := by omega
      have HT := Lib.hid hT
      clear hT
      go_loopw [13] (fun kv wx => ∃ (k : Nat), kv = .int .i64 k ∧ k ≤ m2 ∧ Hid (RSt w wx gr m1 capr (Q.takeAway p c i (G.take k) R)) ∧ Hid (RSt w wx gq N N (List.replicate i 0 ++ (c :: q)))) (fun kv _ => m2 - (intOf kv).toNat)
      case atStart => exact ⟨0, rfl, by omega, by show RSt _ _ _ _ _ _; rw [List.take_zero, Q.takeAway_zero]; exact HR'.out, HQ'⟩
      case round =>
        obtain ⟨k, rfl, hk, HRk, HQk⟩ := hrel
        by_cases hkm : k < m2
        · have hkG : k < G.length := by have := HM.out.2; omega
          have hlen : i + G.length ≤ R.length := by have := HM.out.2; have := HR.out.len; have := HTL.out; omega
          obtain ⟨y, hy⟩ : ∃ y, y = G.getD k 0 := ⟨_, rfl⟩
          have hyp : y < p := by rw [hy]; exact hG.out.red.getD (by omega) k
          have c2 : wr.cell? ⟨b2, k, none⟩ = some (.int .i64 (y : Int)) := by
            rw [HRk.out.below.cell (p := ⟨b2, k, none⟩) hb2, HC2.out _ _ (nats_get G k hkG), hy, Q.getD_get hkG]
          obtain ⟨s, hs⟩ : ∃ s : Nat, s = i + k := ⟨_, rfl⟩
          have hsm : s < m1 := by have := HTL.out; omega
          obtain ⟨x, hx⟩ : ∃ x, x = R.getD s 0 := ⟨_, rfl⟩
          have hxp : x < p := by rw [hx]; exact HRed.out.getD (by omega) _
          have c3 : wr.cell? ⟨gr, s, none⟩ = some (.int .i64 (x : Int)) := by
            rw [HRk.out.cell hsm, hs, Q.takeAway_at p c i G R k hkG hlen, hx, hs]
          have hfr : wr.frozen? ⟨gr, s, none⟩ = false := HRk.out.free _
          have hsk : (i : Int) + (k : Int) = (s : Int) := by omega
          have hsk2 : IntKind.i64.wrap ((i : Int) + (k : Int)) = (s : Int) := by rw [hsk]; exact IntWalk.i64_in _ (by omega)
          have hsk3 : ((i : Int) + (k : Int)).toNat = s := by omega
          have hsk4 : (s : Int) < (m1 : Int) := by omega
          have hTy : 0 ≤ (T : Int) * (y : Int) ∧ (T : Int) * (y : Int) ≤ 1042441 := by
            have h1 : T * y ≤ 1021 * 1021 := Nat.mul_le_mul hTb (by omega)
            have h2 : (T : Int) * (y : Int) = ((T * y : Nat) : Int) := by simp
            omega
          obtain ⟨u, hu⟩ : ∃ u : Nat, u = (x + T * y) % p := ⟨_, rfl⟩
          have hue : ((x : Int) + (T : Int) * (y : Int)) % (p : Int) = (u : Int) := by rw [hu]; simp
          have hw0 : IntKind.i64.wrap ((p : Int) - (c : Int)) = (T : Int) := by rw [hTT]; exact IntWalk.i64_in _ (by omega)
          have hw1 : IntKind.i64.wrap ((T : Int) * (y : Int)) = (T : Int) * (y : Int) := IntWalk.i64_in _ (by omega)
          have hw2 : IntKind.i64.wrap ((x : Int) + (T : Int) * (y : Int)) = (x : Int) + (T : Int) * (y : Int) := IntWalk.i64_in _ (by omega)
          have HSTEP : Hid (RSt w (wr.setCell ⟨gr, s, none⟩ (.int .i64 (u : Int))) gr m1 capr (Q.takeAway p c i (G.take (k + 1)) R)) := by
            show RSt _ _ _ _ _ _
            rw [← Q.takeAway_step p c i G R k hkG hlen, ← hs, ← hx, ← hy, ← HT.out, ← hu]
            exact HRk.out.set _ _
          have HQS : Hid (RSt w (wr.setCell ⟨gr, s, none⟩ (.int .i64 (u : Int))) gq N N (List.replicate i 0 ++ (c :: q))) := HQk.out.other hgr1 (Ne.symm hgrq) _
          have hk3 : (k : Int) < (m2 : Int) := by omega
          clear hy hx hu hs
          go_wp2_with (fail)
          go_region
          all_goals
            go_wp2_with (fail)
            go_roundw
            case rel => exact ⟨k + 1, by go_num, by omega, HSTEP.out.low (Below.refl _ _).drew, HQS.out.low (Below.refl _ _).drew⟩
            case measure => simp [intOf]; omega
        · obtain rfl : k = m2 := by omega
          have HRE : Hid (RSt w wr gr m1 capr (Q.takeAway p c i G R)) := by
            have := HRk.out
            rw [List.take_of_length_le (by have := HM.out.2; omega)] at this; exact this
          go_wp2_with (fail)
          go_roundw
          case rel => exact ⟨_, i, Q.takeAway p c i G R, c :: q, rfl, by show _ = _; rfl, by omega, HRE, HQk, Q.takeAway_red (by omega) HRed.out, HFF⟩
          case measure => simp [intOf]

theorem rDiv_is (p : Nat) (F G : List Nat) (v1 v2 : Value) (w : World) (hP : Hid (M.Pr p)) (hp2 : p ≤ 1021) (h1 : Hid (Rd w v1 1 F.length (nats F))) (h2 : Hid (Rd w v2 1 G.length (nats G)))
    (hF : Hid (Q.Pol p F)) (hG : Hid (Q.Pol p G)) (hl1 : F.length ≤ 100000) (hg0 : G.length ≠ 0) :
    Calls Tryz.prog 27 #[.int .i64 p, v1, v2] w (RetD w (Q.divP p F G).1 (Q.divP p F G).2) := by
  by_cases hlt : F.length < G.length
  · have e : Q.divP p F G = ([], F) := by rw [Q.divP, if_pos hlt]
    rw [e]
    exact rDiv_short p F G v1 v2 w h1 h2 (Q.trim_of_pol hF.out) hl1 hlt
  · exact rDiv_long p F G v1 v2 w hP hp2 h1 h2 hF hG hl1 hg0 (by omega)

end Go.Proofs.YtbehihanhfmmhaaGreat

namespace Go.Proofs.YtbehihanhfmmhaaGreat
open Go.RowKit

/-- Three new lists, and no error. -/
def RetT (w : World) (d a b : List Nat) (x : Ending) (w' : World) : Prop := (∃ vd va vb, x = .returned (.tuple #[vd, va, vb, .int .i64 0]) ∧ NewL w w' vd d ∧ NewL w w' va a ∧ NewL w w' vb b) ∧ Below w.heap.size w w'

set_option maxRecDepth 100000 in
set_option maxHeartbeats 1000000 in
theorem rMonic_is (p : Nat) (F : List Nat) (v1 : Value) (w : World) (hP : Hid (M.Pr p)) (hp2 : p ≤ 1021) (h1 : Hid (Rd w v1 1 F.length (nats F))) (hF : Hid (Q.Pol p F)) (hl1 : F.length ≤ 100000) :
    Calls Tryz.prog 12 #[.int .i64 p, v1] w (RetL w (Q.monicP p F)) := by
  have hp : 2 ≤ p := hP.out.1
  obtain ⟨a1, cap1, hv1⟩ := h1.out.shape
  subst hv1
  by_cases h0 : F.length = 0
  · have hz : ((F.length : Int) == 0) = true := by rw [beq_iff_eq]; omega
    have HE : Hid (Q.monicP p F = []) := by show _ = _; rw [Q.monicP, if_pos h0]
    clear h0
    go_enter Tryz.func12, Tryz.ntmps12
    go_wp2_with (fail)
    go_ret
    rw [HE.out]
    exact ⟨⟨_, rfl, NewL.nil _ _⟩, Below.refl _ _⟩
  · have hz : ((F.length : Int) == 0) = false := by rw [beq_eq_false_iff_ne]; omega
    obtain ⟨n, hn⟩ : ∃ n, F.length = n + 1 := ⟨F.length - 1, by omega⟩
    obtain ⟨b, rfl, hb, hc⟩ := h1.out.at n (by omega)
    have hne := hF.out.ne h0
    have hlt := hF.out.red.getD (show 0 < p by omega) (F.length - 1)
    rw [show F.length - 1 = n by omega] at hne hlt
    have hinv := Q.inv_spec hP.out hlt hne
    obtain ⟨x, hx⟩ : ∃ x, x = F.getD n 0 := ⟨_, rfl⟩
    rw [← hx] at hc hne hlt hinv
    obtain ⟨i, hi⟩ : ∃ i, i = Q.invM p x := ⟨_, rfl⟩
    have hip : i < p := by rw [hi]; exact hinv.1
    have HI := Lib.hid hi
    have HE : Hid (Q.scaleP p F i = Q.monicP p F) := by
      show _ = _
      rw [hi, hx, ← Q.scale_monic hP.out hF.out h0, show F.length - 1 = n by omega]
    have hnl : (F.length : Int) - 1 = (n : Int) := by omega
    have hnl2 : (n : Int) < (F.length : Int) := by omega
    clear hi hx hinv hn h0
    go_enter Tryz.func12, Tryz.ntmps12
    go_wp2_with (fail)
    refine (rinverse_is p x _ hP hp2 hlt hne).mono ?_
    rintro e wz ⟨rfl, hwz⟩
    subst hwz
    rw [← HI.out]
    go_wp2_with (fail)
    refine (rScale_is p i F _ _ hp hp2 hip h1 hF.out.red hl1).mono ?_
    rintro e w2 ⟨⟨v, rfl, hN⟩, hB⟩
    rw [HE.out] at hN
    have HR := Lib.hid (And.intro hN hB)
    obtain ⟨a2, c2, hv2⟩ := hN.rd.shape
    subst hv2
    clear hN hB
    go_wp2_with (fail)
    go_ret
    exact ⟨⟨_, rfl, HR.out.1⟩, HR.out.2⟩

set_option maxRecDepth 100000 in
set_option maxHeartbeats 2000000 in
theorem rgcd_ok (p n : Nat) (F G D : List Nat) (v1 v2 : Value) (w : World) (hP : Hid (M.Pr p)) (hp2 : p ≤ 1021) (h1 : Hid (Rd w v1 1 F.length (nats F))) (h2 : Hid (Rd w v2 1 G.length (nats G)))
    (hF : Hid (Q.Pol p F)) (hG : Hid (Q.Pol p G)) (hl1 : F.length ≤ 100000) (hl2 : G.length ≤ 100000) (hD : Hid (Q.gcdLoop p n F G = some D)) :
    Calls Tryz.prog 24 #[.int .i64 p, v1, v2] w (RetL w D) := by
  have hp : 2 ≤ p := hP.out.1
  obtain ⟨a1, cap1, hv1⟩ := h1.out.shape
  obtain ⟨a2, cap2, hv2⟩ := h2.out.shape
  subst hv1 hv2
  go_enter Tryz.func24, Tryz.ntmps24
  go_wp2_with (fail)
  go_loopw [1, 2] (fun x y wr => ∃ (a b : Option Addr) (cp cq m k : Nat) (f g : List Nat), x = .slice a m cp ∧ y = .slice b k cq ∧ m ≤ 100000 ∧ k ≤ 100000 ∧ Hid (m = f.length ∧ k = g.length) ∧ Hid (Rd wr (.slice a m cp) 1 f.length (nats f)) ∧ Hid (Rd wr (.slice b k cq) 1 g.length (nats g)) ∧ Hid (Q.Pol p f) ∧ Hid (Q.Pol p g) ∧ Hid (Below w.heap.size w wr) ∧ Hid (∃ j, Q.gcdLoop p j f g = some D)) (fun _ y _ => match y with | .slice _ k _ => k | _ => 0)
  case atStart => exact ⟨_, _, _, _, _, _, F, G, rfl, rfl, hl1, hl2, ⟨rfl, rfl⟩, h1, h2, hF, hG, Below.refl _ _, ⟨n, hD.out⟩⟩
  case round =>
    obtain ⟨a, b, cp, cq, m, k, f, g, rfl, rfl, hm, hk, HMK, HR1, HR2, Hf, Hg, HB, HJ⟩ := hrel
    by_cases h0 : 0 < k
    · have hg0 : g.length ≠ 0 := by have := HMK.out.2; omega
      obtain ⟨dr, hdr⟩ : ∃ dr, dr = (Q.divP p f g).2 := ⟨_, rfl⟩
      have HDR := Lib.hid hdr
      have hstep : Hid (∃ j, Q.gcdLoop p j g dr = some D) := by
        obtain ⟨j, hj⟩ := HJ.out
        cases j with
        | zero => simp [Q.gcdLoop] at hj
        | succ j => rw [Q.gcdLoop, if_neg hg0] at hj; exact ⟨j, by rw [hdr]; exact hj⟩
      have hdiv := Q.div_is hP.out Hf.out Hg.out hg0
      rw [← hdr] at hdiv
      have HPR : Hid (Q.Pol p dr) := hdiv.rpol
      have hrk : dr.length < k := by have := HMK.out.2; have := hdiv.rlen; omega
      have hdec : decide ((0 : Int) < (k : Int)) = true := by rw [decide_eq_true_iff]; omega
      clear hdiv hdr
      go_wp2_with (fail)
      refine (rDiv_is p f g _ _ _ hP hp2 HR1 HR2 Hf Hg (by have := HMK.out.1; omega) hg0).mono ?_
      rintro e w1 ⟨⟨vq, vr, rfl, hNq, hNr⟩, hB⟩
      rw [← HDR.out] at hNr
      have HN : Hid (Rd w1 vr 1 dr.length (nats dr)) := hNr.rd
      have HR2' : Hid (Rd w1 (.slice b k cq) 1 g.length (nats g)) := HR2.out.below hB (Nat.le_refl _)
      have HB' : Hid (Below w.heap.size w w1) := HB.out.trans (hB.mono HB.out.size)
      obtain ⟨a3, cap3, hv3⟩ := hNq.rd.shape
      obtain ⟨a4, cap4, hv4⟩ := hNr.rd.shape
      subst hv3 hv4
      clear hNq hNr hB
      go_wp2_with (fail)
      go_roundw
      case rel => exact ⟨_, _, _, _, _, _, g, dr, rfl, rfl, hk, by omega, ⟨HMK.out.2, rfl⟩, HR2', HN, Hg, HPR, HB', hstep⟩
      case measure => exact hrk
    · have hd : decide (0 < k) = false := by simpa using h0
      have hd2 : decide ((0 : Int) < (k : Int)) = false := by rw [decide_eq_false_iff_not]; omega
      have hk0 : k = 0 := by omega
      have HE : Hid (D = Q.monicP p f) := by
        obtain ⟨j, hj⟩ := HJ.out
        cases j with
        | zero => simp [Q.gcdLoop] at hj
        | succ j => rw [Q.gcdLoop, if_pos (by have := HMK.out.2; omega)] at hj; injection hj with hj; exact hj.symm
      clear hk0
      go_wp2_with (fail)
      refine (rMonic_is p f _ _ hP hp2 HR1 Hf (by have := HMK.out.1; omega)).mono ?_
      rintro e w1 ⟨⟨vq, rfl, hq⟩, hB⟩
      have HN : Hid (NewL w w1 vq (Q.monicP p f) ∧ Below w.heap.size w w1) := ⟨hq.from HB.out.size, HB.out.trans (hB.mono HB.out.size)⟩
      obtain ⟨a3, cap3, hv3⟩ := hq.rd.shape
      subst hv3
      clear hq hB
      go_wp2_with (fail)
      go_ret
      rw [HE.out]
      exact ⟨⟨_, rfl, HN.out.1⟩, HN.out.2⟩

theorem rgcd_is (p : Nat) (F G : List Nat) (v1 v2 : Value) (w : World) (hP : Hid (M.Pr p)) (hp2 : p ≤ 1021) (h1 : Hid (Rd w v1 1 F.length (nats F))) (h2 : Hid (Rd w v2 1 G.length (nats G)))
    (hF : Hid (Q.Pol p F)) (hG : Hid (Q.Pol p G)) (hl1 : F.length ≤ 100000) (hl2 : G.length ≤ 100000) :
    Calls Tryz.prog 24 #[.int .i64 p, v1, v2] w (RetL w (Q.gcdP p F G)) := by
  obtain ⟨d, hd, _⟩ := Q.gcdLoop_is hP.out (G.length + 1) hF.out hG.out (by omega)
  have e : Q.gcdP p F G = d := by unfold Q.gcdP; rw [hd]; rfl
  rw [e]
  exact rgcd_ok p _ F G d v1 v2 w hP hp2 h1 h2 hF hG hl1 hl2 hd

end Go.Proofs.YtbehihanhfmmhaaGreat

namespace Go.Proofs.YtbehihanhfmmhaaGreat
open Go.RowKit

set_option maxRecDepth 100000 in
set_option maxHeartbeats 1000000 in
theorem Factor_zero (p : Nat) (F : List Nat) (v : Value) (w : World) (hP : Hid (M.Pr p)) (hp2 : p ≤ 1021) (h1 : Hid (Rd w v 1 F.length (nats F))) (hF : Hid (Q.Pol p F)) (hl1 : F.length ≤ 33) (h0 : Hid (F.length = 0)) :
    Calls Tryz.prog 5 #[.int .i64 p, v] w fun x w' => x = .returned (.tuple #[.int .i64 0, .slice none 0 0, .int .i64 20]) ∧ Below w.heap.size w w' := by
  have hM := Lib.hid (rdM1 (T := 22) h1.out.zs)
  have hB : Hid (Below w.heap.size w (w.alloc (.cells #[v] 22))) := (Below.refl _ _).alloc (Nat.le_refl _) _
  have hls : Hid (∀ Z ∈ [up F], Z.length ≤ 1000000) := by intro Z hZ; simp at hZ; subst hZ; rw [up_length]; omega
  have ht : Hid (Args1 p (up F)) := args1_of hP.out hp2 hF.out hl1
  obtain ⟨a1, cap1, rfl⟩ := h1.out.shape
  go_enter Tryz.func5, Tryz.ntmps5
  go_wp2_with (fail)
  refine (arePolys_yes p _ [up F] _ hM (by simp) hls ht).mono ?_
  rintro e w1 ⟨rfl, hB1⟩
  have HB := Lib.hid (hB.out.trans (hB1.mono (by simp)))
  clear hB1 hM h1
  have hz : ((F.length : Int) == 0) = true := by simp [h0.out]
  go_wp2_with (fail)
  go_ret3
  exact ⟨rfl, HB.out⟩

/-- What Factor returns, in any case. -/
def RetFO (w : World) (x : Ending) (w' : World) : Prop := (∃ (c e : Int) (v : Value) (L : List FacE), x = .returned (.tuple #[.int .i64 c, v, .int .i64 e]) ∧ FcS w w' v L ∧ L.length ≤ 33) ∧ Below w.heap.size w w'
theorem Factor_own (p : Nat) (F : List Nat) (v : Value) (w : World) (hP : Hid (M.Pr p)) (hp2 : p ≤ 1021) (h1 : Hid (Rd w v 1 F.length (nats F))) (hF : Hid (Q.Pol p F)) (hl1 : F.length ≤ 33) :
    Calls Tryz.prog 5 #[.int .i64 p, v] w (RetFO w) := by
  by_cases h0 : F.length = 0
  · exact (Factor_zero p F v w hP hp2 h1 hF hl1 h0).mono fun x w' ⟨h, hB⟩ => ⟨⟨0, 20, _, [], h, FcS.nil hB, by simp⟩, hB⟩
  · refine (Factor_ok p F v w hP hp2 h1 hF hl1 h0).mono fun x w' h => ?_
    obtain ⟨v', L, fin, hx, hf, hfin, hperm, hs⟩ := h
    obtain ⟨l, hl⟩ := Q.facL_of hP.out hF.out h0 (by omega) hfin hperm hs
    have := hl.len hP.out hF.out h0
    rw [strip, List.length_map] at this
    exact ⟨⟨_, 0, v', L, hx, hf, by omega⟩, hf.below⟩

/-- What Div returns, in any case. -/
def RetDO (w : World) (x : Ending) (w' : World) : Prop := (∃ (e : Int) (vq vr : Value) (q r : List Nat), x = .returned (.tuple #[vq, vr, .int .i64 e]) ∧ NewL w w' vq q ∧ NewL w w' vr r) ∧ Below w.heap.size w w'
/-- What Gcd returns. -/
def RetGO (w : World) (x : Ending) (w' : World) : Prop := (∃ (vd va vb : Value) (d a b : List Nat), x = .returned (.tuple #[vd, va, vb, .int .i64 0]) ∧ NewL w w' vd d ∧ NewL w w' va a ∧ NewL w w' vb b) ∧ Below w.heap.size w w'
/-- A row that may be overwritten: in a block from base on, below top. -/
def RowW (base top : Nat) (w : World) (u : Value) : Prop := ∃ (a : Option Addr) (n cp : Nat), u = .slice a n cp ∧ n ≤ 9223372036854775807 ∧ (n = 0 ∨ ∃ g, a = some ⟨g, 0, none⟩ ∧ base ≤ g ∧ g < top ∧ (∀ i, i < n → ∃ c, w.cell? ⟨g, i, none⟩ = some c) ∧ ∀ i, w.frozen? ⟨g, i, none⟩ = false)
theorem RowW.of {w : World} {base : Nat} {u : Value} {F : List Nat} (h : w.ownsRow base 3 1 u F.length (nats F)) : RowW base w.heap.size w u := by
  obtain ⟨a, cp, h1, h2, h3, _⟩ := own_form h
  subst h1
  refine ⟨a, F.length, cp, rfl, by omega, ?_⟩
  by_cases h0 : F.length = 0
  · exact .inl h0
  · obtain ⟨g, e, g1, g2, g3, g4⟩ := own_cells (L := F) h (by omega)
    exact .inr ⟨g, e, g1, g2, fun i hi => ⟨_, g3 i hi⟩, g4⟩
theorem RowW.keep {base top : Nat} {w w' : World} {u : Value} (h : RowW base top w u) (ht : top ≤ w.heap.size) (hB : Below w.heap.size w w') : RowW base top w' u := by
  obtain ⟨a, n, cp, h1, h2, h3⟩ := h
  refine ⟨a, n, cp, h1, h2, h3.imp id ?_⟩
  rintro ⟨g, e, g1, g2, g3, g4⟩
  refine ⟨g, e, g1, g2, fun i hi => ?_, fun i => ?_⟩
  · rw [hB.cell (p := ⟨g, i, none⟩) (show g < w.heap.size by omega)]; exact g3 i hi
  · rw [hB.frozen (p := ⟨g, i, none⟩) (show g < w.heap.size by omega)]; exact g4 i
theorem RowW.set {base top g : Nat} {w : World} {u : Value} (h : RowW base top w u) (k : Nat) (c : Value) : RowW base top (w.setCell ⟨g, k, none⟩ c) u := by
  obtain ⟨a, n, cp, h1, h2, h3⟩ := h
  refine ⟨a, n, cp, h1, h2, h3.imp id ?_⟩
  rintro ⟨g', e, g1, g2, g3, g4⟩
  refine ⟨g', e, g1, g2, fun i hi => ?_, fun i => by rw [World.frozen?_setCell]; exact g4 i⟩
  obtain ⟨y, hy⟩ := g3 i hi
  by_cases hp : (⟨g, k, none⟩ : Addr) = ⟨g', i, none⟩
  · rw [hp]; exact ⟨c, World.cell?_setCell_same w _ _ hy⟩
  · rw [World.cell?_setCell_other w _ _ _ hp]; exact ⟨y, hy⟩

/-- The list of the results while they are overwritten. -/
structure WAll (wb : World) (top ga : Nat) (vs : List Value) (w : World) : Prop where
  below : Below wb.heap.size wb w
  hdr : ∀ (i : Nat) (u : Value), vs[i]? = some u → w.cell? ⟨ga, i, none⟩ = some u
  rows : ∀ u ∈ vs, RowW wb.heap.size top w u
theorem WAll.set {wb : World} {top ga g : Nat} {vs : List Value} {w : World} (h : WAll wb top ga vs w) (hg : wb.heap.size ≤ g) (hga : g < top) (ht : top ≤ ga) (k : Nat) (c : Value) : WAll wb top ga vs (w.setCell ⟨g, k, none⟩ c) := by
  refine ⟨h.below.setCell hg _, fun i u hu => ?_, fun u hu => (h.rows u hu).set k c⟩
  rw [World.cell?_setCell_other w _ _ _ (by intro e; injection e with e; omega)]
  exact h.hdr i u hu

end Go.Proofs.YtbehihanhfmmhaaGreat
