/- Texts of the proof, laid together. -/
import Derived.Test.YtgcjdojhfimceaaGreatG01
namespace Go.Proofs.YtgcjdojhfimceaaGreat
namespace Q
variable {p : Nat}

/-! ### One irreducible polynomial -/
theorem Irr.primeX (hP : M.Pr p) {g : List Nat} (h : Irr p g) {a b : Px p} (ha : IsP p a) (hb : IsP p b) (hd : DX p g (a * b)) : DX p g a ∨ DX p g b := by
  obtain ⟨q, hq, rfl⟩ := ha
  obtain ⟨r, hr, rfl⟩ := hb
  rw [← ev_prod] at hd
  exact (h.prime hP hq hr (dx_iff.1 hd)).imp dx_iff.2 dx_iff.2

theorem Irr.notOne (hP : M.Pr p) {g : List Nat} (h : Irr p g) : ¬ DX p g 1 := fun hd => by
  rw [← ev_one] at hd
  have := dv_one hP h.pol (dx_iff.1 hd)
  have := h.two
  omega

theorem cg_const (hP : M.Pr p) {g : List Nat} (hg : Pol p g) (h2 : 2 ≤ g.length) {a b : Nat} (ha : a < p) (hb : b < p) (h : Cg p g (ev p [a]) (ev p [b])) : a = b := by
  have hp : 0 < p := by omega
  rw [← ev_trim [a], ← ev_trim [b]] at h
  have l1 := trim1_len a
  have l2 := trim1_len b
  exact trim1_inj (low_cg hP (pol_trim1 hp a ha) (pol_trim1 hp b hb) hg (by omega) (by omega) h)

theorem Irr.prodS (hP : M.Pr p) {g : List Nat} (h : Irr p g) {u : Px p} (hu : IsP p u) : ∀ xs : List Nat, DX p g (Q.prodS p u xs) → ∃ x ∈ xs, Cg p g u (ev p [x])
  | [], hd => absurd hd (h.notOne hP)
  | x :: xs, hd => by
    have hp : 0 < p := by have := hP.1; omega
    have hpr : ∀ xs, IsP p (Q.prodS p u xs) := fun xs => by
      induction xs with
      | nil => exact IsP.one hP
      | cons a xs ih => exact (hu.sub hp (IsP.const hp a)).mul hP ih
    rcases h.primeX hP (hu.sub hp (IsP.const hp x)) (hpr xs) hd with h1 | h1
    · exact ⟨x, by simp, h1⟩
    · obtain ⟨y, hy, h2⟩ := h.prodS hP hu xs h1
      exact ⟨y, by simp [hy], h2⟩

/-- A fixed polynomial is a number modulo each irreducible factor. -/
theorem fixed_const (hP : M.Pr p) {f g h : List Nat} (hg : Irr p g) (hd : Dv p g f) (hh : Pol p h) (hx : Fx p f h) : ∃ s, s < p ∧ Cg p g (ev p h) (ev p [s]) := by
  have h1 : DX p g (pw (ev p h) p - ev p h) := DX.trans hP hd hx
  rw [← prod_all hP] at h1
  obtain ⟨s, hs, hc⟩ := hg.prodS hP (IsP.ev hh) _ h1
  exact ⟨s, List.mem_range.1 hs, hc⟩

/-! ### Products of different irreducible polynomials -/
theorem dv_of_prodL (hP : M.Pr p) {g : List Nat} (hg : MIrr p g) {l : List (List Nat)} (hl : ∀ x ∈ l, MIrr p x) (h : Dv p g (prodL p l)) : g ∈ l := by
  obtain ⟨x, hx, hd⟩ := hg.irr.dv_prodL hP (fun y hy => (hl y hy).irr.pol) h
  rw [hg.eq hP (hl x hx) hd]; exact hx

theorem dx_prodL (hP : M.Pr p) {a : Px p} (ha : IsP p a) : ∀ {l : List (List Nat)}, l.Nodup → (∀ g ∈ l, MIrr p g) → (∀ g ∈ l, DX p g a) → DX p (prodL p l) a
  | [], _, _, _ => ⟨a, ha, by show a = a * ev p [1]; rw [ev_one, Px.mul_one]⟩
  | g :: l, hn, hl, hd => by
    obtain ⟨q, hq, e⟩ := hd g (by simp)
    have hg := hl g (by simp)
    have hn1 := List.nodup_cons.1 hn
    obtain ⟨r, hr, e2⟩ := dx_prodL hP hq hn1.2 (fun x hx => hl x (by simp [hx])) fun x hx => by
      have h1 := hd x (by simp [hx])
      rw [e] at h1
      rcases (hl x (by simp [hx])).irr.primeX hP hq (IsP.ev hg.irr.pol) h1 with h2 | h2
      · exact h2
      · have := (hl x (by simp [hx])).eq hP hg (dx_iff.1 h2)
        subst this
        exact absurd hx hn1.1
    exact ⟨r, hr, by rw [e, e2, ev_prodL_cons]; ac_rfl⟩

/-- f is a number times the product of different irreducible polynomials. -/
structure Sqf (p : Nat) (f : List Nat) (gs : List (List Nat)) : Prop where
  nodup : gs.Nodup
  irr : ∀ g ∈ gs, MIrr p g
  pol : Pol p f
  two : 2 ≤ f.length
  val : ∃ c, c < p ∧ c ≠ 0 ∧ ev p f = ev p [c] * ev p (prodL p gs)

theorem Sqf.dv (hP : M.Pr p) {f : List Nat} {gs : List (List Nat)} (S : Sqf p f gs) {g : List Nat} (hg : g ∈ gs) : Dv p g f := by
  obtain ⟨c, hc, h0, e⟩ := S.val
  rw [← dx_iff, e]
  exact DX.mul hP (IsP.const (by omega) c) (dx_iff.2 (dv_prodL_mem hP (fun x hx => (S.irr x hx).irr.pol) hg))

theorem Sqf.all (hP : M.Pr p) {f : List Nat} {gs : List (List Nat)} (S : Sqf p f gs) {a : Px p} (ha : IsP p a) (h : ∀ g ∈ gs, DX p g a) : DX p f a := by
  obtain ⟨c, hc, h0, e⟩ := S.val
  obtain ⟨q, hq, e2⟩ := dx_prodL hP ha S.nodup S.irr h
  have hi := inv_spec hP hc h0
  refine ⟨q * ev p [invM p c], hq.mul hP (IsP.const (by omega) _), ?_⟩
  rw [e, e2, show q * ev p [invM p c] * (ev p [c] * ev p (prodL p gs)) = ev p [c] * ev p [invM p c] * (q * ev p (prodL p gs)) by ac_rfl, ev_const_mul _ _ hi.2.1, Px.one_mul]

theorem Sqf.fx (hP : M.Pr p) {f : List Nat} {gs : List (List Nat)} (S : Sqf p f gs) {h : List Nat} (hh : Pol p h) (H : ∀ g ∈ gs, ∃ s, Cg p g (ev p h) (ev p [s])) : Fx p f h := by
  have hp : 0 < p := by have := hP.1; omega
  refine S.all hP ((IsP.ev hh).pw hP p |>.sub hp (IsP.ev hh)) fun g hg => ?_
  obtain ⟨s, hs⟩ := H g hg
  have h1 := hs.pw hP (IsP.ev hh) (IsP.const hp s) p
  rw [frob_const hP] at h1
  exact h1.trans hp (hs.symm hp)

/-- Remainders may be prescribed. -/
theorem crt (hP : M.Pr p) : ∀ (L : List (List Nat × Nat)), (L.map fun x => x.1).Nodup → (∀ x ∈ L, MIrr p x.1) → ∃ h, Pol p h ∧ ∀ x ∈ L, Cg p x.1 (ev p h) (ev p [x.2])
  | [], _, _ => ⟨[], Pol.nil p, by simp⟩
  | (g, a) :: L, hn, hL => by
    have hp : 0 < p := by have := hP.1; omega
    rw [List.map_cons] at hn
    have hn1 := List.nodup_cons.1 hn
    obtain ⟨h, hh, H⟩ := crt hP L hn1.2 fun x hx => hL x (by simp [hx])
    have hg : MIrr p g := hL (g, a) (by simp)
    have hK : ∀ x ∈ L.map (fun x => x.1), MIrr p x := fun x hx => by
      obtain ⟨y, hy, rfl⟩ := List.mem_map.1 hx; exact hL y (by simp [hy])
    have hKp : ∀ x ∈ L.map (fun x => x.1), Pol p x := fun x hx => (hK x hx).irr.pol
    obtain ⟨u, v, hu, hv, e⟩ := hg.irr.bez hP (prodL_pol hP hKp) fun hd => hn1.1 (dv_of_prodL hP hg hK hd)
    obtain ⟨P, hPe⟩ : ∃ P, P = prodL p (L.map fun x => x.1) := ⟨_, rfl⟩
    have hPp : Pol p P := hPe ▸ prodL_pol hP hKp
    rw [← hPe] at e
    -- h + (a - h) v P
    have hd : IsP p (ev p [a] - ev p h) := (IsP.const hp a).sub hp (IsP.ev hh)
    have hx : IsP p (ev p h + (ev p [a] - ev p h) * (ev p v * ev p P)) := (IsP.ev hh).add hp (hd.mul hP ((IsP.ev hv).mul hP (IsP.ev hPp)))
    obtain ⟨k, hk, ek⟩ := hx
    refine ⟨k, hk, fun x hx => ?_⟩
    rw [← ek]
    rcases List.mem_cons.1 hx with rfl | hx
    · -- v P is 1 - u g
      have h1 : Cg p g (ev p v * ev p P) 1 := by
        unfold Cg
        rw [e, show ev p v * ev p P - (ev p u * ev p g + ev p v * ev p P) = -(ev p u * ev p g) by
          rw [Px.sub_def, Px.neg_add_rev, Px.add_comm (-(ev p u * ev p g)), ← Px.add_assoc, Px.add_neg, Px.zero_add]]
        exact DX.neg hp (DX.self hP (IsP.ev hu))
      have h2 := Cg.mul hP ((IsP.ev hv).mul hP (IsP.ev hPp)) hd (Cg.refl (f := g) (ev p [a] - ev p h)) h1
      have h3 := (Cg.refl (f := g) (ev p h)).add hp h2
      rw [Px.mul_one, Px.add_comm (ev p h) (ev p [a] - ev p h), sub_add] at h3
      rw [Px.add_comm] at h3 ⊢
      exact h3
    · have h1 : DX p x.1 (ev p P) := dx_iff.2 (hPe ▸ dv_prodL_mem hP hKp (List.mem_map.2 ⟨x, hx, rfl⟩))
      have h2 : Cg p x.1 ((ev p [a] - ev p h) * (ev p v * ev p P)) 0 := Cg.zero.2 (DX.mul hP hd (DX.mul hP (IsP.ev hv) h1))
      have h3 := (H x hx).add hp h2
      rwa [Px.add_zero] at h3

theorem Sqf.crt (hP : M.Pr p) {f : List Nat} {gs : List (List Nat)} (S : Sqf p f gs) (a : List Nat → Nat) : ∃ h, Pol p h ∧ h.length < f.length ∧ Fx p f h ∧ ∀ g ∈ gs, Cg p g (ev p h) (ev p [a g]) := by
  have hp : 0 < p := by have := hP.1; omega
  have h2 := S.two
  obtain ⟨h, hh, H⟩ := Q.crt hP (gs.map fun g => (g, a g)) (by rw [List.map_map]; exact (List.map_id gs).symm ▸ S.nodup) fun x hx => by
    obtain ⟨g, hg, rfl⟩ := List.mem_map.1 hx; exact S.irr g hg
  have D := div_is hP hh S.pol (by omega)
  have hc : ∀ g ∈ gs, Cg p g (ev p (remP p h f)) (ev p [a g]) := fun g hg => by
    have h1 := rem_cg hP hh S.pol (by omega)
    exact (Cg.symm hp (DX.trans hP (S.dv hP hg) h1)).trans hp (H (g, a g) (List.mem_map.2 ⟨g, hg, rfl⟩))
  exact ⟨remP p h f, D.rpol, D.rlen, S.fx hP D.rpol fun g hg => ⟨_, hc g hg⟩, hc⟩

/-! ### The basis -/
theorem fixedMat_len (f : List Nat) : (fixedMat p f).length = f.length - 1 := by simp [fixedMat]
theorem fixedMat_red (hP : M.Pr p) {f : List Nat} (hf : Pol p f) (h2 : 2 ≤ f.length) : ∀ i, i < f.length - 1 → Red p (rowAt (fixedMat p f) i) := fun i hi x hx => by
  have hp := hP.1
  have P := powSeq_is hP hf h2 (step_is hP hf h2)
  rw [fixedMat_row f hi] at hx
  simp only [List.mem_map, List.mem_range] at hx
  obtain ⟨j, _, rfl⟩ := hx
  unfold fixedCell
  split
  · exact Nat.mod_lt _ (by omega)
  · exact (P j).1.red.getD (by omega) _

theorem fixed_kernel (hP : M.Pr p) {f : List Nat} (hf : Pol p f) (h2 : 2 ≤ f.length) : KerIs p (f.length - 1) (fixedMat p f) :=
  kernel_is hP (fixedMat_len f) (fixedMat_red hP hf h2)

theorem colP_red (hp : 0 < p) (h1 : 1 < p) (m : List (List Nat)) (j : Nat) : Red p (colP p m j) := by
  intro x hx
  simp only [colP, column, List.mem_map, List.mem_range] at hx
  obtain ⟨i, _, rfl⟩ := hx
  split
  · exact Nat.mod_lt _ hp
  · split <;> omega
theorem colP_len (m : List (List Nat)) (j : Nat) : (colP p m j).length = m.length := by simp [colP, column]

/-- The element of the basis for a free column. -/
def basP (p : Nat) (f : List Nat) (j : Nat) : List Nat := trim (colP p (fixedMat p f) j)
theorem fixedP_eq (f : List Nat) : fixedP p f = (freeL p (fixedMat p f)).map (basP p f) := kernelP_eq _
theorem bas_pol (hP : M.Pr p) {f : List Nat} (h2 : 2 ≤ f.length) (j : Nat) : Pol p (basP p f j) ∧ (basP p f j).length < f.length := by
  have := hP.1
  refine ⟨(colP_red (by omega) (by omega) _ _).trim, ?_⟩
  unfold basP
  rw [trim_length]
  have h1 := trimLen_le (colP p (fixedMat p f) j)
  rw [colP_len, fixedMat_len] at h1
  omega
theorem bas_fx (hP : M.Pr p) {f : List Nat} (hf : Pol p f) (h2 : 2 ≤ f.length) {j : Nat} (hj : j ∈ freeL p (fixedMat p f)) : Fx p f (basP p f j) := by
  have K := fixed_kernel hP hf h2
  have B := bas_pol hP h2 j
  rw [← ker_iff hP hf h2 B.1 B.2]
  intro i hi
  have h := K.mem j hj i hi
  unfold basP
  rwa [cf_trim]

/-- A fixed polynomial is the sum of the basis, with its own numbers at the free columns. -/
theorem fx_span (hP : M.Pr p) {f h : List Nat} (hf : Pol p f) (h2 : 2 ≤ f.length) (hh : Pol p h) (hl : h.length < f.length) (hx : Fx p f h) :
    ev p h = sx (f.length - 1) fun j => if j ∈ freeL p (fixedMat p f) then ev p [h.getD j 0] * ev p (basP p f j) else 0 := by
  have K := fixed_kernel hP hf h2
  have H := K.span (cf h) ((ker_iff hP hf h2 hh hl).2 hx)
  have e : ∀ n, (sx n fun j => if j ∈ freeL p (fixedMat p f) then ev p [h.getD j 0] * ev p (basP p f j) else 0) = Px.of p fun i => sm n fun j => if j ∈ freeL p (fixedMat p f) then cf h j * cf (colP p (fixedMat p f) j) i else 0 := by
    intro n
    induction n with
    | zero => exact Px.zero_of
    | succ n ih =>
      rw [sx, ih]
      by_cases hn : n ∈ freeL p (fixedMat p f)
      · rw [if_pos hn]
        have e : ev p [h.getD n 0] * ev p (basP p f n) = Px.of p fun i => cf h n * cf (colP p (fixedMat p f) n) i := by
          unfold basP
          rw [ev_trim]
          unfold ev
          rw [Px.mul_of]
          congr 1; funext i
          have : cf [h.getD n 0] = fun k => if k = 0 then cf h n else 0 := by funext k; rcases k with _ | k <;> simp [cf]
          rw [this, cau_mono, if_pos (Nat.zero_le _), Nat.sub_zero]
        rw [e, Px.add_of]
        congr 1; funext i
        rw [sm, if_pos hn]
      · rw [if_neg hn, Px.add_zero]
        congr 1; funext i
        rw [sm, if_neg hn, Int.add_zero]
  rw [e]
  refine Px.eq fun c => ?_
  by_cases hc : c < f.length - 1
  · obtain ⟨k, hk⟩ := H c hc
    exact ⟨k, by omega⟩
  · refine ⟨0, ?_⟩
    rw [cf_out (by omega), sm_zero fun j _ => by rw [cf_out (f := colP p (fixedMat p f) j) (by rw [colP_len, fixedMat_len]; omega), Int.mul_zero, ite_self]]; simp

/-- What holds of the basis, as numbers modulo two polynomials, holds of all. -/
theorem fx_same (hP : M.Pr p) {f h g g' : List Nat} (hf : Pol p f) (h2 : 2 ≤ f.length) (hh : Pol p h) (hl : h.length < f.length) (hx : Fx p f h)
    (H : ∀ j ∈ freeL p (fixedMat p f), ∃ s, Cg p g (ev p (basP p f j)) (ev p [s]) ∧ Cg p g' (ev p (basP p f j)) (ev p [s])) : ∃ s, Cg p g (ev p h) (ev p [s]) ∧ Cg p g' (ev p h) (ev p [s]) := by
  have hp : 0 < p := by have := hP.1; omega
  rw [fx_span hP hf h2 hh hl hx]
  have key : ∀ n, ∃ s, Cg p g (sx n fun j => if j ∈ freeL p (fixedMat p f) then ev p [h.getD j 0] * ev p (basP p f j) else 0) (ev p [s]) ∧ Cg p g' (sx n fun j => if j ∈ freeL p (fixedMat p f) then ev p [h.getD j 0] * ev p (basP p f j) else 0) (ev p [s]) := by
    intro n
    induction n with
    | zero => exact ⟨0, by rw [ev_const_zero]; exact ⟨Cg.refl _, Cg.refl _⟩⟩
    | succ n ih =>
      obtain ⟨s, i1, i2⟩ := ih
      rw [sx]
      by_cases hn : n ∈ freeL p (fixedMat p f)
      · rw [if_pos hn]
        obtain ⟨t, t1, t2⟩ := H n hn
        have B := bas_pol hP h2 n
        refine ⟨s + h.getD n 0 * t, ?_⟩
        rw [← ev_const_add, ← ev_const_mul']
        exact ⟨i1.add hp (Cg.mul hP (IsP.ev B.1) (IsP.const hp _) (Cg.refl _) t1), i2.add hp (Cg.mul hP (IsP.ev B.1) (IsP.const hp _) (Cg.refl _) t2)⟩
      · rw [if_neg hn, Px.add_zero]; exact ⟨s, i1, i2⟩
  exact key _

/-! ### How many -/
theorem inj_len {α β : Type} [DecidableEq β] (F : α → β) : ∀ (l : List α) (k : List β), l.Nodup → (∀ x ∈ l, ∀ y ∈ l, F x = F y → x = y) → (∀ x ∈ l, F x ∈ k) → l.length ≤ k.length
  | [], k, _, _, _ => by simp
  | a :: l, k, hn, hi, hk => by
    have hn1 := List.nodup_cons.1 hn
    have ha := hk a (by simp)
    have h1 := inj_len F l (k.erase (F a)) hn1.2 (fun x hx y hy => hi x (by simp [hx]) y (by simp [hy])) fun x hx => by
      have hne : F x ≠ F a := fun e => hn1.1 (hi x (by simp [hx]) a (by simp) e ▸ hx)
      exact (List.mem_erase_of_ne hne).2 (hk x (by simp [hx]))
    rw [List.length_erase_of_mem ha] at h1
    have h2 := List.length_pos_of_mem ha
    rw [List.length_cons]
    omega

def tuples (p : Nat) : Nat → List (List Nat)
  | 0 => [[]]
  | n + 1 => (List.range p).flatMap fun a => (tuples p n).map (a :: ·)

theorem mem_tuples : ∀ (n : Nat) (t : List Nat), t ∈ tuples p n ↔ t.length = n ∧ ∀ x ∈ t, x < p
  | 0, t => by simp only [tuples, List.mem_singleton]; exact ⟨fun h => by subst h; simp, fun h => List.eq_nil_of_length_eq_zero h.1⟩
  | n + 1, t => by
    simp only [tuples, List.mem_flatMap, List.mem_range, List.mem_map]
    constructor
    · rintro ⟨a, ha, u, hu, rfl⟩
      have := (mem_tuples n u).1 hu
      exact ⟨by simp [this.1], fun x hx => (List.mem_cons.1 hx).elim (fun e => e ▸ ha) (this.2 x)⟩
    · rintro ⟨h1, h2⟩
      match t, h1 with
      | a :: u, h1 => exact ⟨a, h2 a (by simp), u, (mem_tuples n u).2 ⟨by simpa using h1, fun x hx => h2 x (by simp [hx])⟩, rfl⟩

theorem tuples_len : ∀ n, (tuples p n).length = p ^ n
  | 0 => rfl
  | n + 1 => by
    rw [tuples, List.length_flatMap]
    have : (List.range p).map (fun a => ((tuples p n).map (a :: ·)).length) = (List.range p).map fun _ => p ^ n := by
      refine List.map_congr_left fun a _ => ?_
      rw [List.length_map, tuples_len n]
    rw [this, List.map_const', List.sum_replicate_nat, List.length_range, Nat.pow_succ, Nat.mul_comm]

theorem tuples_nodup : ∀ n, (tuples p n).Nodup
  | 0 => by simp [tuples]
  | n + 1 => by
    rw [tuples]
    unfold List.Nodup
    rw [List.pairwise_flatMap]
    refine ⟨fun a _ => ?_, ?_⟩
    · rw [List.pairwise_map]
      exact (tuples_nodup n).imp fun h e => h (by simpa using e)
    · refine List.Pairwise.imp ?_ (List.nodup_range (n := p))
      intro a b hab x hx y hy e
      obtain ⟨u, _, rfl⟩ := List.mem_map.1 hx
      obtain ⟨v, _, rfl⟩ := List.mem_map.1 hy
      simp at e
      exact hab e.1

theorem fx_free (hP : M.Pr p) {f h k : List Nat} (hf : Pol p f) (h2 : 2 ≤ f.length) (hh : Pol p h) (hl : h.length < f.length) (hx : Fx p f h) (hk : Pol p k) (hkl : k.length < f.length) (kx : Fx p f k)
    (e : ∀ j ∈ freeL p (fixedMat p f), h.getD j 0 = k.getD j 0) : h = k := by
  have hp : 0 < p := by have := hP.1; omega
  refine ev_inj hp hh hk ?_
  rw [fx_span hP hf h2 hh hl hx, fx_span hP hf h2 hk hkl kx]
  refine sx_congr fun j _ => ?_
  by_cases hj : j ∈ freeL p (fixedMat p f)
  · rw [if_pos hj, if_pos hj, e j hj]
  · rw [if_neg hj, if_neg hj]

open Classical in
theorem Sqf.count (hP : M.Pr p) {f : List Nat} {gs : List (List Nat)} (S : Sqf p f gs) : gs.length ≤ (fixedP p f).length := by
  have hp2 := hP.1
  have hp : 0 < p := by omega
  have hex : ∀ t : List Nat, ∃ h, Pol p h ∧ h.length < f.length ∧ Fx p f h ∧ ∀ g ∈ gs, Cg p g (ev p h) (ev p [t.getD (gs.idxOf g) 0]) := fun t => S.crt hP fun g => t.getD (gs.idxOf g) 0
  have hH : ∃ H : List Nat → List Nat, ∀ t, Pol p (H t) ∧ (H t).length < f.length ∧ Fx p f (H t) ∧ ∀ g ∈ gs, Cg p g (ev p (H t)) (ev p [t.getD (gs.idxOf g) 0]) :=
    ⟨fun t => Classical.choose (hex t), fun t => Classical.choose_spec (hex t)⟩
  obtain ⟨H, hH⟩ := hH
  have h := inj_len (fun t => (freeL p (fixedMat p f)).map fun j => (H t).getD j 0) (tuples p gs.length) (tuples p (fixedP p f).length) (tuples_nodup _) ?_ ?_
  · rw [tuples_len, tuples_len] at h
    exact (Nat.pow_le_pow_iff_right (by omega)).1 h
  · intro t ht u hu e
    have t1 := (mem_tuples _ _).1 ht
    have u1 := (mem_tuples _ _).1 hu
    have hHe : H t = H u := fx_free hP S.pol S.two (hH t).1 (hH t).2.1 (hH t).2.2.1 (hH u).1 (hH u).2.1 (hH u).2.2.1 fun j hj => List.map_inj_left.1 e j hj
    refine ext_getD (by omega) fun i hi => ?_
    have hig : i < gs.length := by omega
    have hidx : gs.idxOf gs[i] = i := by
      have := List.Nodup.idxOf_getElem S.nodup i hig
      exact this
    have c1 := (hH t).2.2.2 gs[i] (List.getElem_mem hig)
    have c2 := (hH u).2.2.2 gs[i] (List.getElem_mem hig)
    rw [hidx] at c1 c2
    rw [hHe] at c1
    have hm := S.irr gs[i] (List.getElem_mem hig)
    refine cg_const hP hm.irr.pol hm.irr.two ?_ ?_ ((c1.symm hp).trans hp c2)
    · rw [getD_get hi]; exact t1.2 _ (List.getElem_mem hi)
    · rw [getD_get (by omega)]; exact u1.2 _ (List.getElem_mem _)
  · intro t _
    rw [mem_tuples]
    refine ⟨by rw [fixedP_eq]; simp, fun x hx => ?_⟩
    obtain ⟨j, _, rfl⟩ := List.mem_map.1 hx
    exact (hH t).1.red.getD hp j

end Q
end Go.Proofs.YtgcjdojhfimceaaGreat

namespace Go.Proofs.YtgcjdojhfimceaaGreat
namespace Q
variable {p : Nat}

/-- The first of the basis is 1. -/
theorem free_zero (hP : M.Pr p) {f : List Nat} (hf : Pol p f) (h2 : 2 ≤ f.length) : 0 ∈ freeL p (fixedMat p f) ∧ basP p f 0 = [1] := by
  have hp2 := hP.1
  have hp : 0 < p := by omega
  have h1 : Fx p f [1] := by
    unfold Fx
    rw [frob_const hP]; exact Cg.refl _
  have hs := fx_span hP hf h2 (pol_one hP) (by show 1 < _; omega) h1
  obtain ⟨n, hn⟩ : ∃ n, f.length - 1 = n + 1 := ⟨f.length - 2, by omega⟩
  rw [hn, sx_head] at hs
  have hz : sx n (fun j => if j + 1 ∈ freeL p (fixedMat p f) then ev p [[1].getD (j + 1) 0] * ev p (basP p f (j + 1)) else 0) = 0 := sx_zero fun j _ => by
    split
    · rw [show [1].getD (j + 1) 0 = 0 by simp, ev_const_zero, Px.zero_mul]
    · rfl
  rw [hz, Px.add_zero] at hs
  by_cases h0 : 0 ∈ freeL p (fixedMat p f)
  · refine ⟨h0, ?_⟩
    rw [if_pos h0, show [1].getD 0 0 = 1 from rfl, ev_one, Px.one_mul, ← ev_one] at hs
    exact (ev_inj hp (pol_one hP) (bas_pol hP h2 0).1 hs).symm
  · exfalso
    rw [if_neg h0] at hs
    exact ev_ne hP (pol_one hP) (by simp) hs

theorem fixed_head (hP : M.Pr p) {f : List Nat} (hf : Pol p f) (h2 : 2 ≤ f.length) : fixedP p f = [1] :: (fixedP p f).drop 1 := by
  obtain ⟨h0, h1⟩ := free_zero hP hf h2
  obtain ⟨n, hn⟩ : ∃ n, f.length - 1 = n + 1 := ⟨f.length - 2, by omega⟩
  rw [fixedP_eq]
  have e : ∃ r, freeL p (fixedMat p f) = 0 :: r := by
    unfold freeL at h0 ⊢
    rw [fixedMat_len, hn, List.range_succ_eq_map] at h0 ⊢
    rw [List.filter_cons]
    have := (List.mem_filter.1 h0).2
    rw [if_pos this]
    exact ⟨_, rfl⟩
  obtain ⟨r, hr⟩ := e
  rw [hr]
  simp [h1]

/-- A divisor of a product of irreducible polynomials is the product of some of them. -/
theorem gcd_parts (hP : M.Pr p) {M v : List Nat} {K : List (List Nat)} (hM : Pol p M) (mM : Mon M) (hK : ∀ g ∈ K, MIrr p g) (hn : K.Nodup) (e : ev p M = ev p (prodL p K)) (hv : Pol p v) :
    ∃ l l', (l ++ l').Perm K ∧ Pol p (gcdP p M v) ∧ Mon (gcdP p M v) ∧ ev p (gcdP p M v) = ev p (prodL p l) ∧ Pol p (divP p M (gcdP p M v)).1 ∧ Mon (divP p M (gcdP p M v)).1 ∧ ev p (divP p M (gcdP p M v)).1 = ev p (prodL p l')
      ∧ (∀ g ∈ l, Dv p g v) ∧ (∀ g ∈ l', ¬ Dv p g v) ∧ (divP p M (gcdP p M v)).1.length = M.length - ((gcdP p M v).length - 1) := by
  have hp : 0 < p := by have := hP.1; omega
  have G := gcdP_is hP hM hv
  have h0 := mM.1
  have hne : gcdP p M v ≠ [] := fun h => by have := (G.zero.1 h).1; rw [this] at h0; simp at h0
  have mG := G.mon.resolve_left hne
  have D := div_is hP hM G.pol mG.1
  have hr := (rem_nil_iff hP hM G.pol mG.1).2 G.left
  have hval := D.val
  rw [hr, ev_nil, Px.add_zero] at hval
  have e1 := eq_prod hP hM D.qpol G.pol hval
  have mQ := mon_cofactor hP G.pol D.qpol mM mG e1
  obtain ⟨l, hl, el⟩ := exists_fac hP _ (Nat.le_refl _) G.pol mG
  obtain ⟨l', hl', el'⟩ := exists_fac hP _ (Nat.le_refl _) D.qpol mQ
  have hpm : (l ++ l').Perm K := by
    refine fac_perm hP (fun x hx => (List.mem_append.1 hx).elim (hl x) (hl' x)) hK ?_
    rw [ev_prodL_append, ← el, ← el', ← e, hval, Px.mul_comm]
  have hnd : (l ++ l').Nodup := hpm.nodup_iff.2 hn
  refine ⟨l, l', hpm, G.pol, mG, el, D.qpol, mQ, el', fun g hg => ?_, fun g hg hd => ?_, D.qlen⟩
  · have h1 : Dv p g (gcdP p M v) := by
      rw [← dx_iff, el, dx_iff]
      exact dv_prodL_mem hP (fun x hx => (hl x hx).irr.pol) hg
    exact h1.trans hP G.right
  · have hgK : g ∈ K := hpm.mem_iff.1 (List.mem_append.2 (.inr hg))
    have h1 : Dv p g M := by
      rw [← dx_iff, e, dx_iff]
      exact dv_prodL_mem hP (fun x hx => (hK x hx).irr.pol) hgK
    have h2 := G.greatest hP h1 hd
    rw [← dx_iff, el, dx_iff] at h2
    have h3 := dv_of_prodL hP (hl' g hg) hl h2
    exact (List.nodup_append.1 hnd).2.2 g h3 g hg rfl

/-- All of K divide v, or none. -/
def Hom (p : Nat) (v : List Nat) (K : List (List Nat)) : Prop := (∀ g ∈ K, Dv p g v) ∨ (∀ g ∈ K, ¬ Dv p g v)
theorem Hom.sub {v : List Nat} {K K' : List (List Nat)} (h : Hom p v K) (hs : ∀ g ∈ K', g ∈ K) : Hom p v K' := h.imp (fun h g hg => h g (hs g hg)) fun h g hg => h g (hs g hg)

/-- Parts, each with its irreducible factors. -/
structure Part (p : Nat) (z : List Nat × List (List Nat)) : Prop where
  pol : Pol p z.1
  mon : Mon z.1
  val : ev p z.1 = ev p (prodL p z.2)
  ne : z.2 ≠ []
  irr : ∀ g ∈ z.2, MIrr p g
  nodup : z.2.Nodup

theorem part_of (hP : M.Pr p) {M : List Nat} {l : List (List Nat)} (hM : Pol p M) (mM : Mon M) (e : ev p M = ev p (prodL p l)) (h2 : 2 ≤ M.length) (hl : ∀ g ∈ l, MIrr p g) (hn : l.Nodup) : Part p (M, l) := by
  refine ⟨hM, mM, e, fun h => ?_, hl, hn⟩
  simp only at h
  subst h
  have := ev_inj (by have := hP.1; omega) hM (pol_one hP) e
  rw [this] at h2; simp at h2

theorem splitOne_is (hP : M.Pr p) {v : List Nat} (hv : Pol p v) {z : List Nat × List (List Nat)} (Z : Part p z) :
    ∃ Y : List (List Nat × List (List Nat)), Y.map (fun x => x.1) = splitOne p v z.1 ∧ (∀ y ∈ Y, Part p y ∧ Hom p v y.2 ∧ ∀ g ∈ y.2, g ∈ z.2) ∧ (Y.flatMap fun x => x.2).Perm z.2 := by
  obtain ⟨M, K⟩ := z
  show ∃ Y : List (List Nat × List (List Nat)), Y.map (fun x => x.1) = splitOne p v M ∧ (∀ y ∈ Y, Part p y ∧ Hom p v y.2 ∧ ∀ g ∈ y.2, g ∈ K) ∧ (Y.flatMap fun x => x.2).Perm K
  have ZM : Pol p M := Z.pol
  have ZmM : Mon M := Z.mon
  obtain ⟨l, l', hpm, hc, mc, ec, hq, mq, eq, h1, h2, hlen⟩ := gcd_parts hP ZM ZmM Z.irr Z.nodup Z.val hv
  have hc0 := mc.1
  have hM0 := ZmM.1
  have hsub : ∀ g, g ∈ l ∨ g ∈ l' → g ∈ K := fun g hg => hpm.mem_iff.1 (List.mem_append.2 hg)
  have hnd : (l ++ l').Nodup := hpm.nodup_iff.2 Z.nodup
  have hnd2 := List.nodup_append.1 hnd
  unfold splitOne
  simp only
  by_cases hs : 1 < (gcdP p M v).length ∧ (gcdP p M v).length < M.length
  · rw [if_pos hs]
    refine ⟨[(gcdP p M v, l), ((divP p M (gcdP p M v)).1, l')], rfl, ?_, by simpa using hpm⟩
    intro y hy
    simp at hy
    rcases hy with rfl | rfl
    · exact ⟨part_of hP hc mc ec (by omega) (fun g hg => Z.irr g (hsub g (.inl hg))) hnd2.1, .inl h1, fun g hg => hsub g (.inl hg)⟩
    · exact ⟨part_of hP hq mq eq (by omega) (fun g hg => Z.irr g (hsub g (.inr hg))) hnd2.2.1, .inr h2, fun g hg => hsub g (.inr hg)⟩
  · rw [if_neg hs]
    refine ⟨[(M, K)], rfl, ?_, by simp⟩
    intro y hy
    simp at hy
    subst hy
    refine ⟨Z, ?_, fun g hg => hg⟩
    by_cases hc1 : 1 < (gcdP p M v).length
    · have hq1 : (divP p M (gcdP p M v)).1 = [1] := mon_len1 mq (by have := mq.1; omega)
      have hl' : l' = [] := by
        cases l' with
        | nil => rfl
        | cons g t =>
          exfalso
          rw [hq1] at eq
          have h3 : Dv p g [1] := by
            rw [← dx_iff, eq, dx_iff]
            exact dv_prodL_mem hP (fun x hx => (Z.irr x (hsub x (.inr hx))).irr.pol) (by simp)
          have := dv_one hP (Z.irr g (hsub g (.inr (by simp)))).irr.pol h3
          have := (Z.irr g (hsub g (.inr (by simp)))).irr.two
          omega
      refine .inl fun g hg => h1 g ?_
      have := hpm.mem_iff.2 hg
      rw [hl', List.append_nil] at this
      exact this
    · have hc1' : gcdP p M v = [1] := mon_len1 mc (by have := mc.1; omega)
      have hl : l = [] := by
        cases l with
        | nil => rfl
        | cons g t =>
          exfalso
          rw [hc1'] at ec
          have h3 : Dv p g [1] := by
            rw [← dx_iff, ec, dx_iff]
            exact dv_prodL_mem hP (fun x hx => (Z.irr x (hsub x (.inl hx))).irr.pol) (by simp)
          have := dv_one hP (Z.irr g (hsub g (.inl (by simp)))).irr.pol h3
          have := (Z.irr g (hsub g (.inl (by simp)))).irr.two
          omega
      refine .inr fun g hg => h2 g ?_
      have := hpm.mem_iff.2 hg
      rw [hl, List.nil_append] at this
      exact this

/-- The state of the search: the parts Ms, with their factors, which are gs. -/
structure SpState (p : Nat) (gs : List (List Nat)) (Ms : List (List Nat)) (Y : List (List Nat × List (List Nat))) : Prop where
  fst : Y.map (fun x => x.1) = Ms
  part : ∀ y ∈ Y, Part p y
  perm : (Y.flatMap fun x => x.2).Perm gs

theorem splitBy_is (hP : M.Pr p) {v : List Nat} (hv : Pol p v) : ∀ (Y : List (List Nat × List (List Nat))), (∀ y ∈ Y, Part p y) →
    ∃ Y' : List (List Nat × List (List Nat)), Y'.map (fun x => x.1) = splitBy p (Y.map fun x => x.1) v ∧ (∀ y' ∈ Y', Part p y' ∧ Hom p v y'.2 ∧ ∃ y ∈ Y, ∀ g ∈ y'.2, g ∈ y.2) ∧ (Y'.flatMap fun x => x.2).Perm (Y.flatMap fun x => x.2)
  | [], _ => ⟨[], rfl, by simp, by simp⟩
  | z :: Y, hY => by
    obtain ⟨A, a1, a2, a3⟩ := splitOne_is hP hv (hY z (by simp))
    obtain ⟨B, b1, b2, b3⟩ := splitBy_is hP hv Y fun y hy => hY y (by simp [hy])
    refine ⟨A ++ B, ?_, fun y hy => ?_, ?_⟩
    · rw [List.map_append, a1, b1]; simp [splitBy]
    · rcases List.mem_append.1 hy with h | h
      · obtain ⟨c1, c2, c3⟩ := a2 y h; exact ⟨c1, c2, z, by simp, c3⟩
      · obtain ⟨c1, c2, x, hx, c3⟩ := b2 y h; exact ⟨c1, c2, x, by simp [hx], c3⟩
    · rw [List.flatMap_append, List.flatMap_cons]; exact a3.append b3

/-- What is known of the parts after some rounds: they are pure for the polynomials in V. -/
def Pure (p : Nat) (V : List Nat → Prop) (Y : List (List Nat × List (List Nat))) : Prop := ∀ y ∈ Y, ∀ v, V v → Hom p v y.2

theorem splitS_is (hP : M.Pr p) {gs : List (List Nat)} {nb : Nat} {v : List Nat} (V : List Nat → Prop) : ∀ (n s : Nat) (Ms : List (List Nat)) (Y : List (List Nat × List (List Nat))), SpState p gs Ms Y → Pure p V Y →
    ∃ Y', SpState p gs (splitS p nb v n s Ms).2 Y' ∧ ((splitS p nb v n s Ms).1 = true → (splitS p nb v n s Ms).2.length = nb) ∧ ((splitS p nb v n s Ms).1 = false → Pure p (fun u => V u ∨ ∃ t, s ≤ t ∧ t < s + n ∧ u = difP p v (trim [t])) Y')
  | 0, s, Ms, Y, S, H => by
    refine ⟨Y, S, fun h => (by cases h), fun _ y hy u hu => ?_⟩
    rcases hu with hu | ⟨t, h1, h2, _⟩
    · exact H y hy u hu
    · omega
  | n + 1, s, Ms, Y, S, H => by
    have hp : 0 < p := by have := hP.1; omega
    rw [splitS]
    by_cases h : Ms.length = nb
    · rw [if_pos h]
      exact ⟨Y, S, fun _ => h, fun h => by cases h⟩
    · rw [if_neg h]
      obtain ⟨Y1, y1, y2, y3⟩ := splitBy_is hP (pol_dif hp v (trim [s])) Y S.part
      rw [S.fst] at y1
      have S1 : SpState p gs (splitBy p Ms (difP p v (trim [s]))) Y1 := ⟨y1, fun y hy => (y2 y hy).1, y3.trans S.perm⟩
      have H1 : Pure p (fun u => V u ∨ u = difP p v (trim [s])) Y1 := fun y hy u hu => by
        obtain ⟨c1, c2, x, hx, c3⟩ := y2 y hy
        rcases hu with hu | rfl
        · exact (H x hx u hu).sub c3
        · exact c2
      obtain ⟨Y', s1, s2, s3⟩ := splitS_is hP (nb := nb) (v := v) (fun u => V u ∨ u = difP p v (trim [s])) n (s + 1) _ Y1 S1 H1
      refine ⟨Y', s1, s2, fun hb y hy u hu => s3 hb y hy u ?_⟩
      rcases hu with hu | ⟨t, h1, h2, rfl⟩
      · exact .inl (.inl hu)
      · by_cases e : t = s
        · subst e; exact .inl (.inr rfl)
        · exact .inr ⟨t, by omega, by omega, rfl⟩

theorem splitV_is (hP : M.Pr p) {gs : List (List Nat)} {nb : Nat} : ∀ (vs : List (List Nat)) (V : List Nat → Prop) (Ms : List (List Nat)) (Y : List (List Nat × List (List Nat))), SpState p gs Ms Y → Pure p V Y →
    ∃ Y', SpState p gs (splitV p nb vs Ms) Y' ∧ ((splitV p nb vs Ms).length = nb ∨ Pure p (fun u => V u ∨ ∃ v ∈ vs, ∃ t, t < p ∧ u = difP p v (trim [t])) Y')
  | [], V, Ms, Y, S, H => by
    refine ⟨Y, S, .inr fun y hy u hu => ?_⟩
    rcases hu with hu | ⟨v, hv, _⟩
    · exact H y hy u hu
    · simp at hv
  | v :: vs, V, Ms, Y, S, H => by
    rw [splitV]
    obtain ⟨Y1, s1, s2, s3⟩ := splitS_is hP (nb := nb) (v := v) V p 0 Ms Y S H
    cases hb : (splitS p nb v p 0 Ms).1 with
    | true => exact ⟨Y1, s1, .inl (s2 hb)⟩
    | false =>
      obtain ⟨Y', t1, t2⟩ := splitV_is hP (nb := nb) vs _ _ Y1 s1 (s3 hb)
      refine ⟨Y', t1, t2.imp id fun t2 y hy u hu => t2 y hy u ?_⟩
      rcases hu with hu | ⟨w, hw, t, ht, rfl⟩
      · exact .inl (.inl hu)
      · rcases List.mem_cons.1 hw with rfl | hw
        · exact .inl (.inr ⟨t, Nat.zero_le _, by omega, rfl⟩)
        · exact .inr ⟨w, hw, t, ht, rfl⟩

theorem flat_len {Y : List (List Nat × List (List Nat))} (h : ∀ y ∈ Y, y.2 ≠ []) : Y.length ≤ (Y.flatMap fun x => x.2).length ∧ ((Y.flatMap fun x => x.2).length ≤ Y.length → ∀ y ∈ Y, y.2.length = 1) := by
  induction Y with
  | nil => simp
  | cons z Y ih =>
    have hz : 1 ≤ z.2.length := List.length_pos_iff.2 (h z (by simp))
    obtain ⟨i1, i2⟩ := ih fun y hy => h y (by simp [hy])
    rw [List.flatMap_cons, List.length_append, List.length_cons]
    refine ⟨by omega, fun hle y hy => ?_⟩
    rcases List.mem_cons.1 hy with rfl | hy
    · omega
    · exact i2 (by omega) y hy

theorem parts_ones (hP : M.Pr p) : ∀ {Y : List (List Nat × List (List Nat))}, (∀ y ∈ Y, Part p y) → (∀ y ∈ Y, y.2.length = 1) → Y.map (fun x => x.1) = Y.flatMap fun x => x.2
  | [], _, _ => rfl
  | z :: Y, h, h1 => by
    rw [List.map_cons, List.flatMap_cons, parts_ones hP (fun y hy => h y (by simp [hy])) fun y hy => h1 y (by simp [hy])]
    have hz := h z (by simp)
    have hl := h1 z (by simp)
    obtain ⟨M, K⟩ := z
    match K, hl with
    | [g], _ =>
      have e := hz.val
      simp only at e
      rw [ev_prodL_cons] at e
      have e2 : ev p (prodL p []) = 1 := ev_one
      rw [e2, Px.mul_one] at e
      have := ev_inj (by have := hP.1; omega) hz.pol (hz.irr g (by simp)).irr.pol e
      simp only at this
      rw [this]; rfl

/-- The parts of a monic polynomial that has no factor twice are its irreducible factors. -/
theorem splitP_perm (hP : M.Pr p) {f : List Nat} {gs : List (List Nat)} (S : Sqf p f gs) (mf : Mon f) (e : ev p f = ev p (prodL p gs)) : (splitP p f).Perm gs := by
  have hp2 := hP.1
  have hp : 0 < p := by omega
  have h2 := S.two
  have P0 : Part p (f, gs) := part_of hP S.pol mf e h2 S.irr S.nodup
  have S0 : SpState p gs [f] [(f, gs)] := ⟨rfl, fun y hy => by simp at hy; subst hy; exact P0, by simp⟩
  obtain ⟨Y, T, hT⟩ := splitV_is hP (nb := (fixedP p f).length) ((fixedP p f).drop 1) (fun _ => False) [f] _ S0 (fun y hy u hu => hu.elim)
  have hYlen : Y.length = (splitV p (fixedP p f).length ((fixedP p f).drop 1) [f]).length := by rw [← T.fst, List.length_map]
  have hone : ∀ y ∈ Y, y.2.length = 1 := by
    rcases hT with hT | hT
    · refine (flat_len fun y hy => (T.part y hy).ne).2 ?_
      rw [T.perm.length_eq, hYlen, hT]
      exact S.count hP
    · intro y hy
      have P := T.part y hy
      match hK : y.2 with
      | [] => exact absurd hK P.ne
      | [g] => rfl
      | g :: g' :: t =>
        exfalso
        have hg : g ∈ y.2 := by rw [hK]; simp
        have hg' : g' ∈ y.2 := by rw [hK]; simp
        have hne : g ≠ g' := fun e => by
          have := P.nodup; rw [hK] at this; simp [e] at this
        have hgs : ∀ x ∈ y.2, x ∈ gs := fun x hx => T.perm.mem_iff.1 (List.mem_flatMap.2 ⟨y, hy, hx⟩)
        obtain ⟨h, hh, hl, hx, hc⟩ := S.crt hP fun x => if x = g then 1 else 0
        obtain ⟨s, s1, s2⟩ := fx_same hP (g := g) (g' := g') S.pol h2 hh hl hx fun j hj => by
          have B := bas_pol hP h2 j
          have hb : basP p f j ∈ fixedP p f := by rw [fixedP_eq]; exact List.mem_map.2 ⟨j, hj, rfl⟩
          rw [fixed_head hP S.pol h2] at hb
          rcases List.mem_cons.1 hb with hb | hb
          · rw [hb]; exact ⟨1, Cg.refl _, Cg.refl _⟩
          · obtain ⟨s, hs, hsc⟩ := fixed_const hP (P.irr g hg).irr (S.dv hP (hgs g hg)) B.1 (bas_fx hP S.pol h2 hj)
            have hh := hT y hy (difP p (basP p f j) (trim [s])) (.inr ⟨_, hb, s, hs, rfl⟩)
            have hgd : ∀ x, Dv p x (difP p (basP p f j) (trim [s])) ↔ Cg p x (ev p (basP p f j)) (ev p [s]) := fun x => by
              rw [← dx_iff, ev_dif hp _ (pol_trim1 hp s hs).red, ev_trim]; rfl
            rcases hh with hh | hh
            · exact ⟨s, hsc, (hgd g').1 (hh g' hg')⟩
            · exact absurd ((hgd g).2 hsc) (hh g hg)
        have c1 := hc g (hgs g hg)
        have c2 := hc g' (hgs g' hg')
        simp only [if_true] at c1
        rw [if_neg (fun e => hne e.symm)] at c2
        have e1 : ∀ x, ev p [x] = ev p [x % p] := fun x => ev_const_congr (by simp)
        rw [e1 s] at s1 s2
        have a1 := cg_const hP (P.irr g hg).irr.pol (P.irr g hg).irr.two (Nat.mod_lt _ hp) (by omega) ((s1.symm hp).trans hp c1)
        have a2 := cg_const hP (P.irr g' hg').irr.pol (P.irr g' hg').irr.two (Nat.mod_lt _ hp) hp ((s2.symm hp).trans hp c2)
        omega
  have := parts_ones hP T.part hone
  rw [T.fst] at this
  unfold splitP
  rw [this]
  exact T.perm

end Q
end Go.Proofs.YtgcjdojhfimceaaGreat

namespace Go.Proofs.YtgcjdojhfimceaaGreat
namespace Q
variable {p : Nat}

def der (F : Nat → Int) : Nat → Int := fun i => ((i : Int) + 1) * F (i + 1)
theorem der_eqv {F G : Nat → Int} (h : Eqv p F G) : Eqv p (der F) (der G) := fun i => by
  obtain ⟨k, hk⟩ := h (i + 1)
  exact ⟨((i : Int) + 1) * k, by unfold der; rw [hk, Int.mul_add]; congr 1; ac_rfl⟩
def Dr (a : Px p) : Px p := Quotient.lift (s := stP p) (fun F => Px.of p (der F)) (fun _ _ h => Px.eq (der_eqv h)) a
theorem Dr_of (F : Nat → Int) : Dr (Px.of p F) = Px.of p (der F) := rfl

theorem der_cau (F G : Nat → Int) : der (cau F G) = fun m => cau (der F) G m + cau F (der G) m := by
  funext m
  unfold der cau
  rw [← sm_mul]
  have e : sm (m + 1 + 1) (fun i => ((m : Int) + 1) * (F i * G (m + 1 - i))) = sm (m + 1 + 1) (fun i => (i : Int) * F i * G (m + 1 - i)) + sm (m + 1 + 1) fun i => F i * ((((m + 1 - i : Nat)) : Int) * G (m + 1 - i)) := by
    rw [← sm_add]
    refine sm_congr fun i hi => ?_
    rw [show ((m : Int) + 1) = (i : Int) + (((m + 1 - i : Nat)) : Int) by omega, Int.add_mul]
    congr 1 <;> ac_rfl
  rw [e]
  congr 1
  · rw [sm_head]
    simp only [Int.natCast_zero, Int.zero_mul, Int.zero_add]
    refine sm_congr fun i hi => ?_
    rw [show m + 1 - (i + 1) = m - i by omega, Int.natCast_add, Int.natCast_one]
  · rw [sm]
    simp only [Nat.sub_self, Int.natCast_zero, Int.zero_mul, Int.mul_zero, Int.add_zero]
    refine sm_congr fun i hi => ?_
    rw [show m + 1 - i = m - i + 1 by omega]
    simp only [Int.natCast_add, Int.natCast_one]

theorem Dr_add (a b : Px p) : Dr (a + b) = Dr a + Dr b := by
  obtain ⟨F, rfl⟩ := Px.ind a
  obtain ⟨G, rfl⟩ := Px.ind b
  rw [Px.add_of, Dr_of, Dr_of, Dr_of, Px.add_of]
  congr 1; funext i; unfold der; rw [Int.mul_add]
theorem Dr_mul (a b : Px p) : Dr (a * b) = Dr a * b + a * Dr b := by
  obtain ⟨F, rfl⟩ := Px.ind a
  obtain ⟨G, rfl⟩ := Px.ind b
  rw [Px.mul_of, Dr_of, Dr_of, Dr_of, Px.mul_of, Px.mul_of, Px.add_of, der_cau]
theorem Dr_one : Dr (1 : Px p) = 0 := by
  rw [Px.one_of, Dr_of, Px.zero_of]
  refine Px.eq fun i => ⟨0, ?_⟩
  unfold der; simp
theorem Dr_pw (a : Px p) : ∀ n, Dr (pw a (n + 1)) = ev p [n + 1] * pw a n * Dr a
  | 0 => by rw [pw_one, pw_zero, Nat.zero_add, ev_one, Px.one_mul, Px.one_mul]
  | n + 1 => by
    have e : ev p [n + 1 + 1] = ev p [n + 1] + 1 := by rw [← ev_const_add (n + 1) 1, ev_one]
    rw [pw_succ, Dr_mul, Dr_pw a n, e, Px.add_mul, Px.add_mul, Px.one_mul, pw_succ]
    congr 1; ac_rfl

theorem ev_deriv (f : List Nat) : ev p (deriv p f) = Dr (ev p f) := by
  unfold deriv
  rw [ev_trim]
  show ev p _ = Px.of p (der (cf f))
  refine Px.eq fun i => ?_
  by_cases h : i < f.length - 1
  · obtain ⟨k, hk⟩ := natmod_eqv p ((i + 1) * f.getD (i + 1) 0)
    refine ⟨k, ?_⟩
    unfold cf der
    simp only [List.getD_eq_getElem?_getD, List.getElem?_map, List.getElem?_range h, Option.map_some, Option.getD_some]
    simp only [List.getD_eq_getElem?_getD] at hk
    rw [hk, Int.natCast_mul, Int.natCast_add, Int.natCast_one]
  · refine ⟨0, ?_⟩
    unfold der
    rw [cf_out (by simp; omega), cf_out (f := f) (by omega)]; simp
theorem drv_pol (hp : 0 < p) (f : List Nat) : Pol p (deriv p f) := by
  refine Red.trim fun x hx => ?_
  simp only [List.mem_map, List.mem_range] at hx
  obtain ⟨i, _, rfl⟩ := hx
  exact Nat.mod_lt _ hp
theorem deriv_len (f : List Nat) : (deriv p f).length ≤ f.length - 1 := by
  unfold deriv; rw [trim_length]
  refine Nat.le_trans (trimLen_le _) ?_
  simp

/-! ### p-th roots -/
theorem pw_x : ∀ n, pw (xX p) n = mono p 1 n
  | 0 => by rw [pw_zero, Px.one_of]; rfl
  | n + 1 => by
    rw [pw_succ, pw_x n]
    unfold xX mono
    rw [Px.mul_of]
    congr 1; funext k
    rw [cau_mono]
    by_cases h : n ≤ k
    · rw [if_pos h]
      by_cases h2 : k = n + 1
      · rw [if_pos (by omega), if_pos h2]; rfl
      · rw [if_neg (by omega), if_neg h2]; rfl
    · rw [if_neg h, if_neg (by omega)]

theorem deriv_zero (hP : M.Pr p) {f : List Nat} (hf : Pol p f) (hd : (deriv p f).length = 0) (i : Nat) (hi : ¬ p ∣ i) : f.getD i 0 = 0 := by
  have hp2 := hP.1
  have h0 : ev p (deriv p f) = 0 := by rw [List.eq_nil_of_length_eq_zero hd, ev_nil]
  rw [ev_deriv] at h0
  obtain ⟨j, rfl⟩ : ∃ j, i = j + 1 := ⟨i - 1, by rcases i with _ | i; exact absurd ⟨0, by simp⟩ hi; omega⟩
  obtain ⟨k, hk⟩ := Px.eqv (F := der (cf f)) (G := fun _ => 0) h0 j
  unfold der cf at hk
  simp only at hk
  have h1 : (p : Int) ∣ ((((j + 1) * f.getD (j + 1) 0 : Nat)) : Int) := ⟨k, by rw [Int.natCast_mul, Int.natCast_add, Int.natCast_one]; omega⟩
  have h2 : p ∣ (j + 1) * f.getD (j + 1) 0 := Int.natCast_dvd_natCast.1 h1
  have hfl := hf.red.getD (by omega) (j + 1)
  have h3 : (j + 1) % p * f.getD (j + 1) 0 % p = 0 := by rw [Nat.mul_mod, Nat.mod_mod, ← Nat.mul_mod]; exact Nat.mod_eq_zero_of_dvd h2
  rcases (fld_of hP).2 _ _ (Nat.mod_lt _ (by omega)) hfl h3 with h4 | h4
  · exact absurd (Nat.dvd_of_mod_eq_zero h4) hi
  · exact h4

theorem rt_len (f : List Nat) : (rootP p f).length = (f.length - 1) / p + 1 := by simp [rootP]
theorem root_getD (f : List Nat) (i : Nat) (hi : i < (f.length - 1) / p + 1) : (rootP p f).getD i 0 = f.getD (i * p) 0 := by
  unfold rootP
  simp only [List.getD_eq_getElem?_getD, List.getElem?_map, List.getElem?_range hi, Option.map_some, Option.getD_some]

theorem root_is (hP : M.Pr p) {f : List Nat} (hf : Pol p f) (h0 : f.length ≠ 0) (hd : (deriv p f).length = 0) : Pol p (rootP p f) ∧ ev p f = pw (ev p (rootP p f)) p ∧ (rootP p f).getD ((rootP p f).length - 1) 0 = f.getD (f.length - 1) 0 := by
  have hp2 := hP.1
  have hlast := hf.ne h0
  have hdv : p ∣ f.length - 1 := Classical.byContradiction fun h => hlast (deriv_zero hP hf hd _ h)
  obtain ⟨m, hm⟩ := hdv
  have hm2 : (f.length - 1) / p = m := by rw [hm]; exact Nat.mul_div_cancel_left _ (by omega)
  have hrl : (rootP p f).length = m + 1 := by rw [rt_len, hm2]
  have hlst : (rootP p f).getD ((rootP p f).length - 1) 0 = f.getD (f.length - 1) 0 := by
    rw [hrl, Nat.add_sub_cancel, root_getD _ _ (by rw [hm2]; omega), hm, Nat.mul_comm]
  refine ⟨pol_of (fun x hx => ?_) (.inr (by rw [hlst]; exact hlast)), ?_, hlst⟩
  · simp only [rootP, List.mem_map, List.mem_range] at hx
    obtain ⟨i, _, rfl⟩ := hx
    exact hf.red.getD (by omega) _
  · rw [← hor_x (rootP p f), frob_hor hP, hor_sx _ _ (m + 1) (by omega)]
    have e : ∀ n, (sx n fun j => ev p [(rootP p f).getD j 0] * pw (pw (xX p) p) j) = Px.of p fun i => sm n fun j => if i = p * j then cf (rootP p f) j else 0 := by
      intro n
      induction n with
      | zero => exact Px.zero_of
      | succ n ih =>
        rw [sx, ih, pw_pw, pw_x]
        have e1 : ev p [(rootP p f).getD n 0] * mono p 1 (p * n) = Px.of p fun i => if i = p * n then cf (rootP p f) n else 0 := by
          unfold ev mono
          rw [Px.mul_of]
          congr 1; funext i
          have : cf [(rootP p f).getD n 0] = fun k => if k = 0 then cf (rootP p f) n else 0 := by funext k; rcases k with _ | k <;> simp [cf]
          rw [this, cau_mono, if_pos (Nat.zero_le _), Nat.sub_zero]
          split <;> simp
        rw [e1, Px.add_of]
        rfl
    rw [e]
    unfold ev
    congr 1; funext i
    by_cases hi : p ∣ i
    · obtain ⟨j, rfl⟩ := hi
      by_cases hj : j < m + 1
      · have e2 : (fun k => if p * j = p * k then cf (rootP p f) k else 0) = fun k => if k = j then cf (rootP p f) j else 0 := by
          funext k
          by_cases hk : k = j
          · subst hk; simp
          · rw [if_neg hk, if_neg]
            intro h3
            exact hk (Nat.eq_of_mul_eq_mul_left (by omega) h3.symm)
        rw [e2, sm_delta hj]
        unfold cf
        rw [root_getD _ _ (by rw [hm2]; omega), Nat.mul_comm]
      · rw [cf_out (by have := Nat.mul_le_mul_left p (show m + 1 ≤ j by omega); rw [Nat.mul_add] at this; omega), sm_zero]
        intro k hk
        rw [if_neg]
        intro h3
        have := Nat.eq_of_mul_eq_mul_left (by omega) h3
        omega
    · rw [sm_zero fun k _ => by rw [if_neg (fun h3 => hi ⟨k, h3⟩)]]
      unfold cf
      rw [deriv_zero hP hf hd i hi]; rfl

/-- An irreducible polynomial has a derivative that is not 0. -/
theorem Irr.deriv (hP : M.Pr p) {g : List Nat} (h : Irr p g) : (Q.deriv p g).length ≠ 0 := fun hd => by
  have hp2 := hP.1
  obtain ⟨r1, r2, r3⟩ := root_is hP h.pol h.ne hd
  have key : ∀ n, DX p g (pw (ev p (rootP p g)) n) → DX p g (ev p (rootP p g)) := by
    intro n
    induction n with
    | zero => intro h1; exact absurd h1 (h.notOne hP)
    | succ n ih =>
      intro h1
      rw [pw_succ] at h1
      rcases h.primeX hP ((IsP.ev r1).pw hP n) (IsP.ev r1) h1 with h2 | h2
      · exact ih h2
      · exact h2
  have h1 := key p (by rw [← r2]; exact ⟨1, IsP.one hP, by rw [Px.one_mul]⟩)
  have h2 := (dx_iff.1 h1).len hP h.pol r1 (by rw [rt_len]; exact Nat.succ_ne_zero _)
  have h3 := h.two
  rw [rt_len] at h2
  have h4 : (g.length - 1) / p ≤ (g.length - 1) / 2 := Nat.div_le_div_left hp2 (by omega)
  omega

/-! ### How often -/
/-- u divides a. -/
def Dp (u a : Px p) : Prop := ∃ b, IsP p b ∧ a = b * u
theorem Dp.add (hp : 0 < p) {u a b : Px p} : Dp u a → Dp u b → Dp u (a + b) := by
  rintro ⟨q, hq, rfl⟩ ⟨r, hr, rfl⟩; exact ⟨q + r, hq.add hp hr, by rw [Px.add_mul]⟩
theorem Dp.mul (hP : M.Pr p) {u a b : Px p} (hb : IsP p b) : Dp u a → Dp u (b * a) := by
  rintro ⟨q, hq, rfl⟩; exact ⟨b * q, hb.mul hP hq, by rw [Px.mul_assoc]⟩

theorem cancelX (hP : M.Pr p) {a b c : Px p} (ha : IsP p a) (hb : IsP p b) (hc : IsP p c) (h0 : c ≠ 0) (e : a * c = b * c) : a = b := by
  obtain ⟨f, hf, rfl⟩ := ha
  obtain ⟨g, hg, rfl⟩ := hb
  obtain ⟨h, hh, rfl⟩ := hc
  rw [mul_cancel hP hf hg hh (fun e => h0 (by rw [e, ev_nil])) e]

theorem mul_ne0 (hP : M.Pr p) {a b : Px p} (ha : IsP p a) (hb : IsP p b) (h1 : a ≠ 0) (h2 : b ≠ 0) : a * b ≠ 0 := fun e => by
  obtain ⟨f, hf, rfl⟩ := ha
  obtain ⟨g, hg, rfl⟩ := hb
  rcases mul_eq_zero hP hf hg e with rfl | rfl
  · exact h1 ev_nil
  · exact h2 ev_nil
theorem one_ne0 (hP : M.Pr p) : (1 : Px p) ≠ 0 := by rw [← ev_one]; exact ev_ne hP (pol_one hP) (by simp)
theorem pw_ne0 (hP : M.Pr p) {a : Px p} (ha : IsP p a) (h : a ≠ 0) : ∀ n, pw a n ≠ 0
  | 0 => one_ne0 hP
  | n + 1 => by rw [pw_succ]; exact mul_ne0 hP (ha.pw hP n) ha (pw_ne0 hP ha h n) h

theorem pow_le (hP : M.Pr p) {g : List Nat} (hg : Irr p g) {x : Px p} (hx : IsP p x) (hn : ¬ DX p g x) {m n : Nat} (h : Dp (pw (ev p g) m) (pw (ev p g) n * x)) : m ≤ n := by
  refine Classical.byContradiction fun hmn => hn ?_
  obtain ⟨b, hb, e⟩ := h
  have hgp := IsP.ev hg.pol
  have hg0 := ev_ne hP hg.pol hg.ne
  obtain ⟨k, rfl⟩ : ∃ k, m = (k + 1) + n := ⟨m - n - 1, by omega⟩
  rw [pw_add, pw_succ, Px.mul_comm (pw (ev p g) n) x, ← Px.mul_assoc] at e
  have e2 := cancelX hP hx (hb.mul hP ((hgp.pw hP k).mul hP hgp)) (hgp.pw hP n) (pw_ne0 hP hgp hg0 n) e
  exact ⟨b * pw (ev p g) k, hb.mul hP (hgp.pw hP k), by rw [e2]; ac_rfl⟩

/-- The factor g taken out of a product. -/
theorem count_out (hP : M.Pr p) {g : List Nat} (hg : MIrr p g) : ∀ {l : List (List Nat)}, (∀ x ∈ l, MIrr p x) → ev p (prodL p l) = pw (ev p g) (l.count g) * ev p (prodL p (l.filter fun x => x != g))
  | [], _ => by rw [List.count_nil, pw_zero, Px.one_mul]; rfl
  | x :: l, h => by
    rw [ev_prodL_cons, count_out hP hg fun y hy => h y (by simp [hy])]
    by_cases e : x = g
    · subst e
      rw [List.count_cons_self, pw_succ, List.filter_cons_of_neg (by simp)]; ac_rfl
    · rw [List.count_cons_of_ne (by simpa using e), List.filter_cons_of_pos (by simpa using e), ev_prodL_cons]; ac_rfl

theorem filter_irr {g : List Nat} {l : List (List Nat)} (h : ∀ x ∈ l, MIrr p x) : ∀ x ∈ l.filter (fun x => x != g), MIrr p x := fun x hx => h x (List.mem_filter.1 hx).1
theorem filter_not (hP : M.Pr p) {g : List Nat} (hg : MIrr p g) {l : List (List Nat)} (h : ∀ x ∈ l, MIrr p x) : ¬ DX p g (ev p (prodL p (l.filter fun x => x != g))) := fun hd => by
  have := dv_of_prodL hP hg (filter_irr h) (dx_iff.1 hd)
  have := (List.mem_filter.1 this).2
  simp at this
theorem prodL_isP (hP : M.Pr p) {l : List (List Nat)} (h : ∀ x ∈ l, MIrr p x) : IsP p (ev p (prodL p l)) := IsP.ev (prodL_pol hP fun x hx => (h x hx).irr.pol)

theorem count_ge (hP : M.Pr p) {g : List Nat} (hg : MIrr p g) {l : List (List Nat)} (h : ∀ x ∈ l, MIrr p x) {m : Nat} : Dp (pw (ev p g) m) (ev p (prodL p l)) ↔ m ≤ l.count g := by
  constructor
  · intro hd
    rw [count_out hP hg h] at hd
    exact pow_le hP hg.irr (prodL_isP hP (filter_irr h)) (filter_not hP hg h) hd
  · intro hm
    obtain ⟨k, hk⟩ : ∃ k, l.count g = k + m := ⟨l.count g - m, by omega⟩
    rw [count_out hP hg h, hk, pw_add]
    have hgp := IsP.ev hg.irr.pol
    exact ⟨pw (ev p g) k * ev p (prodL p (l.filter fun x => x != g)), (hgp.pw hP k).mul hP (prodL_isP hP (filter_irr h)), by ac_rfl⟩

/-- How often g is in the greatest common divisor of f and its derivative. -/
theorem count_gcd (hP : M.Pr p) {f g : List Nat} (hf : Pol p f) (hg : MIrr p g) {l E : List (List Nat)} (hl : ∀ x ∈ l, MIrr p x) (hE : ∀ x ∈ E, MIrr p x) {c : Nat} (hc : c < p) (hc0 : c ≠ 0) (e : ev p f = ev p [c] * ev p (prodL p l)) (eE : ev p (gcdP p f (deriv p f)) = ev p (prodL p E)) :
    E.count g = if p ∣ l.count g then l.count g else l.count g - 1 := by
  have hp2 := hP.1
  have hp : 0 < p := by omega
  have hdp := drv_pol hp f
  have G := gcdP_is hP hf hdp
  have hgp := IsP.ev hg.irr.pol
  have hg0 := ev_ne hP hg.irr.pol hg.irr.ne
  obtain ⟨n, hn⟩ : ∃ n, n = l.count g := ⟨_, rfl⟩
  obtain ⟨x, hx⟩ : ∃ x, x = ev p [c] * ev p (prodL p (l.filter fun x => x != g)) := ⟨_, rfl⟩
  have hcp : IsP p (ev p [c]) := IsP.const hp c
  have hrp : IsP p (ev p (prodL p (l.filter fun x => x != g))) := prodL_isP hP (filter_irr hl)
  have hxp : IsP p x := by rw [hx]; exact hcp.mul hP hrp
  have hgc : ¬ DX p g (ev p [c]) := fun hd => by
    have h1 : Cg p g (ev p [c]) (ev p [0]) := by rw [ev_const_zero]; exact Cg.zero.2 hd
    exact hc0 (cg_const hP hg.irr.pol hg.irr.two hc (by omega) h1)
  have hxn : ¬ DX p g x := fun hd => by
    rw [hx] at hd
    rcases hg.irr.primeX hP hcp hrp hd with h1 | h1
    · exact hgc h1
    · exact filter_not hP hg hl h1
  have ef : ev p f = pw (ev p g) n * x := by rw [e, count_out hP hg hl, hx, hn]; ac_rfl
  have hdr : ∀ {a : Px p}, IsP p a → IsP p (Dr a) := fun {a} ha => by
    obtain ⟨q, hq, rfl⟩ := ha
    rw [← ev_deriv]; exact IsP.ev (drv_pol hp q)
  have ed : ev p (deriv p f) = Dr (pw (ev p g) n) * x + pw (ev p g) n * Dr x := by rw [ev_deriv, ef, Dr_mul]
  obtain ⟨a, b, ha, hb, ecomb⟩ := G.comb
  have hgcd : ∀ m, Dp (pw (ev p g) m) (ev p f) → Dp (pw (ev p g) m) (ev p (deriv p f)) → m ≤ E.count g := fun m h1 h2 => by
    refine (count_ge hP hg hE).1 ?_
    rw [← eE, ecomb]
    exact (h1.mul hP (IsP.ev ha)).add hp (h2.mul hP (IsP.ev hb))
  have hback : ∀ m, m ≤ E.count g → Dp (pw (ev p g) m) (ev p f) ∧ Dp (pw (ev p g) m) (ev p (deriv p f)) := fun m hm => by
    have h1 := (count_ge hP hg hE).2 hm
    rw [← eE] at h1
    obtain ⟨q1, hq1, e1⟩ := G.left
    obtain ⟨q2, hq2, e2⟩ := G.right
    rw [e1, e2]
    exact ⟨h1.mul hP (IsP.ev hq1), h1.mul hP (IsP.ev hq2)⟩
  have hle : ∀ m, m ≤ E.count g → m ≤ n := fun m hm => by
    have h1 := (hback m hm).1
    rw [ef] at h1
    exact pow_le hP hg.irr hxp hxn h1
  have hself : ∀ m, m ≤ n → Dp (pw (ev p g) m) (ev p f) := fun m hm => by
    obtain ⟨k, rfl⟩ : ∃ k, n = k + m := ⟨n - m, by omega⟩
    rw [ef, pw_add]
    exact ⟨pw (ev p g) k * x, (hgp.pw hP k).mul hP hxp, by ac_rfl⟩
  rw [← hn]
  by_cases hpn : p ∣ n
  · rw [if_pos hpn]
    have h0 : Dr (pw (ev p g) n) = 0 := by
      match n, hpn with
      | 0, _ => rw [pw_zero, Dr_one]
      | m + 1, hpn => rw [Dr_pw, ev_const_dvd hpn, Px.zero_mul, Px.zero_mul]
    have h1 : Dp (pw (ev p g) n) (ev p (deriv p f)) := by
      rw [ed, h0, Px.zero_mul, Px.zero_add]
      exact ⟨Dr x, hdr hxp, Px.mul_comm _ _⟩
    have h2 := hgcd n (hself n (Nat.le_refl _)) h1
    have h3 := hle _ (Nat.le_refl _)
    omega
  · rw [if_neg hpn]
    obtain ⟨m, rfl⟩ : ∃ m, n = m + 1 := ⟨n - 1, by rcases n with _ | n; exact absurd ⟨0, by simp⟩ hpn; omega⟩
    obtain ⟨y, hy⟩ : ∃ y, y = ev p [m + 1] * Dr (ev p g) * x + ev p g * Dr x := ⟨_, rfl⟩
    have hyp : IsP p y := by rw [hy]; exact (((IsP.const hp _).mul hP (hdr hgp)).mul hP hxp).add hp (hgp.mul hP (hdr hxp))
    have ed2 : ev p (deriv p f) = pw (ev p g) m * y := by
      rw [ed, Dr_pw, hy, pw_succ, Px.mul_add]
      congr 1 <;> ac_rfl
    have hyn : ¬ DX p g y := fun hd => by
      have h1 : DX p g (ev p g * Dr x) := ⟨Dr x, hdr hxp, Px.mul_comm _ _⟩
      have h2 := hd.sub hp h1
      rw [hy, add_sub] at h2
      rcases hg.irr.primeX hP ((IsP.const hp _).mul hP (hdr hgp)) hxp h2 with h3 | h3
      · rcases hg.irr.primeX hP (IsP.const hp _) (hdr hgp) h3 with h4 | h4
        · have e1 : ev p [m + 1] = ev p [(m + 1) % p] := ev_const_congr (by simp)
          rw [e1] at h4
          have h5 : Cg p g (ev p [(m + 1) % p]) (ev p [0]) := by rw [ev_const_zero]; exact Cg.zero.2 h4
          have h6 := cg_const hP hg.irr.pol hg.irr.two (Nat.mod_lt _ hp) hp h5
          exact hpn (Nat.dvd_of_mod_eq_zero h6)
        · rw [← ev_deriv] at h4
          have h5 := (dx_iff.1 h4).len hP hg.irr.pol (drv_pol hp g) (hg.irr.deriv hP)
          have h6 := deriv_len (p := p) g
          have h7 := hg.irr.two
          omega
      · exact hxn h3
    have h2 := hgcd m (hself m (by omega)) (by rw [ed2]; exact ⟨y, hyp, Px.mul_comm _ _⟩)
    have h3 : ∀ k, k ≤ E.count g → k ≤ m := fun k hk => by
      have := (hback k hk).2
      rw [ed2] at this
      exact pow_le hP hg.irr hyp hyn this
    have h4 := h3 _ (Nat.le_refl _)
    omega

end Q
end Go.Proofs.YtgcjdojhfimceaaGreat

namespace Go.Proofs.YtgcjdojhfimceaaGreat
namespace Q
variable {p : Nat}

theorem takeOut_is (hP : M.Pr p) {g : List Nat} (hg : MIrr p g) : ∀ (n exp : Nat) {f : List Nat}, Pol p f → Mon f → f.length < n →
    ∃ k f', takeOut p g n exp f = some (exp + k, f') ∧ Pol p f' ∧ Mon f' ∧ ev p f = pw (ev p g) k * ev p f' ∧ ¬ DX p g (ev p f')
  | 0, exp, f, hf, mf, hl => by omega
  | n + 1, exp, f, hf, mf, hl => by
    have hg0 := hg.irr.ne
    have D := div_is hP hf hg.irr.pol hg0
    rw [takeOut]
    by_cases h : (divP p f g).2.length = 0
    · rw [if_pos h]
      have hval := D.val
      rw [List.eq_nil_of_length_eq_zero h, ev_nil, Px.add_zero] at hval
      have e1 := eq_prod hP hf D.qpol hg.irr.pol hval
      have mq := mon_cofactor hP hg.irr.pol D.qpol mf hg.mon e1
      have h3 := D.qlen
      have h4 := hg.irr.two
      have h5 := mf.1
      obtain ⟨k, f', t1, t2, t3, t4, t5⟩ := takeOut_is hP hg n (exp + 1) D.qpol mq (by omega)
      refine ⟨k + 1, f', by rw [t1, show exp + 1 + k = exp + (k + 1) by omega], t2, t3, ?_, t5⟩
      rw [hval, t4, pw_succ]; ac_rfl
    · rw [if_neg h]
      refine ⟨0, f, rfl, hf, mf, by rw [pw_zero, Px.one_mul], fun hd => h ?_⟩
      rw [(rem_nil_iff hP hf hg.irr.pol hg0).2 (dx_iff.1 hd)]; rfl

/-- Taken out of a product of irreducible polynomials. -/
theorem takeOut_prod (hP : M.Pr p) {g : List Nat} (hg : MIrr p g) {f : List Nat} {m : List (List Nat)} (hm : ∀ x ∈ m, MIrr p x) (hf : Pol p f) (mf : Mon f) (e : ev p f = ev p (prodL p m)) :
    ∃ f', takeOut p g (f.length + 1) 0 f = some (m.count g, f') ∧ Pol p f' ∧ Mon f' ∧ ev p f' = ev p (prodL p (m.filter fun x => x != g)) := by
  obtain ⟨k, f', t1, t2, t3, t4, t5⟩ := takeOut_is hP hg (f.length + 1) 0 hf mf (by omega)
  have hgp := IsP.ev hg.irr.pol
  have hg0 := ev_ne hP hg.irr.pol hg.irr.ne
  have e2 := count_out hP hg hm
  have hr := prodL_isP hP (filter_irr (g := g) hm)
  have h1 : k = m.count g := by
    have a1 : k ≤ m.count g := by
      refine pow_le hP hg.irr hr (filter_not hP hg hm) ?_
      rw [← e2, ← e, t4]
      exact ⟨ev p f', IsP.ev t2, Px.mul_comm _ _⟩
    have a2 : m.count g ≤ k := by
      refine pow_le hP hg.irr (IsP.ev t2) t5 ?_
      rw [← t4, e, e2]
      exact ⟨_, hr, Px.mul_comm _ _⟩
    omega
  subst h1
  refine ⟨f', by rw [t1, Nat.zero_add], t2, t3, ?_⟩
  refine cancelX hP (IsP.ev t2) hr (hgp.pw hP (m.count g)) (pw_ne0 hP hgp hg0 _) ?_
  rw [Px.mul_comm, ← t4, e, e2, Px.mul_comm]

theorem count_filter_ne {m : List (List Nat)} {g x : List Nat} (h : x ≠ g) : (m.filter fun y => y != g).count x = m.count x := by
  rw [List.count_filter (by simpa using h)]

theorem takeAll_is (hP : M.Pr p) (t : Nat) : ∀ (ps : List (List Nat)) {f : List Nat} {m : List (List Nat)}, ps.Nodup → (∀ x ∈ ps, MIrr p x) → (∀ x ∈ m, MIrr p x) → Pol p f → Mon f → ev p f = ev p (prodL p m) →
    ∃ f', takeAll p t ps f = some (ps.map fun g => (g, m.count g * t), f') ∧ Pol p f' ∧ Mon f' ∧ ev p f' = ev p (prodL p (m.filter fun x => !ps.contains x))
  | [], f, m, _, _, _, hf, mf, e => ⟨f, rfl, hf, mf, by rw [e, List.filter_eq_self.2 (by simp)]⟩
  | g :: ps, f, m, hn, hps, hm, hf, mf, e => by
    have hn1 := List.nodup_cons.1 hn
    obtain ⟨f1, t1, t2, t3, t4⟩ := takeOut_prod hP (hps g (by simp)) hm hf mf e
    obtain ⟨f', u1, u2, u3, u4⟩ := takeAll_is hP t ps hn1.2 (fun x hx => hps x (by simp [hx])) (filter_irr hm) t2 t3 t4
    refine ⟨f', ?_, u2, u3, ?_⟩
    · rw [takeAll, t1]
      simp only
      rw [u1]
      simp only [List.map_cons]
      congr 2
      congr 1
      refine List.map_congr_left fun x hx => ?_
      have hxg : x ≠ g := fun h => hn1.1 (h ▸ hx)
      rw [count_filter_ne hxg]
    · rw [u4, List.filter_filter]
      congr 2
      refine List.filter_congr fun x _ => ?_
      simp only [List.contains_cons, Bool.not_or]
      rw [Bool.and_comm]
      rfl

/-- A list of factors with exponents, of the irreducible polynomials in l, the exponents times t. -/
structure FacOk (t : Nat) (l : List (List Nat)) (L : List (List Nat × Nat)) : Prop where
  nodup : (L.map fun x => x.1).Nodup
  exp : ∀ x ∈ L, x.1 ∈ l ∧ x.2 = l.count x.1 * t
  all : ∀ g ∈ l, ∃ x ∈ L, x.1 = g

theorem mon_root (hP : M.Pr p) {f : List Nat} (hf : Pol p f) (mf : Mon f) (hd : (deriv p f).length = 0) : Mon (rootP p f) := by
  obtain ⟨_, _, h⟩ := root_is hP hf mf.1 hd
  exact ⟨by rw [rt_len]; exact Nat.succ_ne_zero _, by rw [h]; exact mf.2⟩

theorem count_root (hP : M.Pr p) {l k : List (List Nat)} (hl : ∀ x ∈ l, MIrr p x) (hk : ∀ x ∈ k, MIrr p x) {g : List Nat} (hg : MIrr p g) (e : ev p (prodL p l) = pw (ev p (prodL p k)) p) : l.count g = k.count g * p := by
  have hgp := IsP.ev hg.irr.pol
  have hr := prodL_isP hP (filter_irr (g := g) hk)
  have hr2 := prodL_isP hP (filter_irr (g := g) hl)
  have e1 : ev p (prodL p l) = pw (ev p g) (k.count g * p) * pw (ev p (prodL p (k.filter fun x => x != g))) p := by
    rw [e, count_out hP hg hk, pw_mul, pw_pw]
  have hnp : ∀ n, ¬ DX p g (pw (ev p (prodL p (k.filter fun x => x != g))) n) := by
    intro n
    induction n with
    | zero => exact hg.irr.notOne hP
    | succ n ih =>
      intro h
      rw [pw_succ] at h
      rcases hg.irr.primeX hP (hr.pw hP n) hr h with h1 | h1
      · exact ih h1
      · exact filter_not hP hg hk h1
  have a1 : l.count g ≤ k.count g * p := by
    refine pow_le hP hg.irr (hr.pw hP p) (hnp p) ?_
    rw [← e1]
    exact (count_ge hP hg hl).2 (Nat.le_refl _)
  have a2 : k.count g * p ≤ l.count g := by
    refine (count_ge hP hg hl).1 ?_
    rw [e1]
    exact ⟨_, hr.pw hP p, Px.mul_comm _ _⟩
  omega

/-- The polynomial without repeated factors that the next round splits. -/
theorem simple_is (hP : M.Pr p) {f : List Nat} {l : List (List Nat)} (hf : Pol p f) (mf : Mon f) (hl : ∀ x ∈ l, MIrr p x) (e : ev p f = ev p (prodL p l)) (hd : (deriv p f).length ≠ 0) :
    ∃ k, Sqf p (divP p f (gcdP p f (deriv p f))).1 k ∧ Mon (divP p f (gcdP p f (deriv p f))).1 ∧ ev p (divP p f (gcdP p f (deriv p f))).1 = ev p (prodL p k) ∧ (∀ g, MIrr p g → (g ∈ k ↔ ¬ p ∣ l.count g)) := by
  have hp2 := hP.1
  have hp : 0 < p := by omega
  have hdp := drv_pol hp f
  have G := gcdP_is hP hf hdp
  have h0 := mf.1
  have hne : gcdP p f (deriv p f) ≠ [] := fun h => by have := (G.zero.1 h).1; rw [this] at h0; simp at h0
  have mG := G.mon.resolve_left hne
  have D := div_is hP hf G.pol mG.1
  have hval := D.val
  rw [(rem_nil_iff hP hf G.pol mG.1).2 G.left, ev_nil, Px.add_zero] at hval
  have e1 := eq_prod hP hf D.qpol G.pol hval
  have mQ := mon_cofactor hP G.pol D.qpol mf mG e1
  obtain ⟨E, hE, eE⟩ := exists_fac hP _ (Nat.le_refl _) G.pol mG
  obtain ⟨k, hk, ek⟩ := exists_fac hP _ (Nat.le_refl _) D.qpol mQ
  have hpm : (k ++ E).Perm l := by
    refine fac_perm hP (fun x hx => (List.mem_append.1 hx).elim (hk x) (hE x)) hl ?_
    rw [ev_prodL_append, ← ek, ← eE, ← e, hval]
  have hcnt : ∀ g, MIrr p g → k.count g = if p ∣ l.count g then 0 else 1 := fun g hg => by
    have h1 := count_gcd hP hf hg hl hE (c := 1) (by omega) (by omega) (by rw [ev_one, Px.one_mul]; exact e) eE
    have h2 := hpm.count_eq g
    rw [List.count_append] at h2
    split at h1
    · next h => rw [if_pos h]; omega
    · next h =>
      rw [if_neg h]
      have : l.count g ≠ 0 := fun h3 => h ⟨0, by omega⟩
      omega
  have hkn : k.Nodup := by
    rw [List.nodup_iff_count]
    intro g
    by_cases hg : g ∈ k
    · have := hcnt g (hk g hg)
      split at this <;> omega
    · rw [List.count_eq_zero_of_not_mem hg]; omega
  have hmem : ∀ g, MIrr p g → (g ∈ k ↔ ¬ p ∣ l.count g) := fun g hg => by
    have h1 := hcnt g hg
    constructor
    · intro hgk h2
      rw [if_pos h2] at h1
      exact absurd hgk (List.count_eq_zero.1 h1)
    · intro h2
      rw [if_neg h2] at h1
      exact List.count_pos_iff.1 (by omega)
  refine ⟨k, ⟨hkn, hk, D.qpol, ?_, 1, by omega, by omega, by rw [ev_one, Px.one_mul]; exact ek⟩, mQ, ek, hmem⟩
  refine Classical.byContradiction fun hlen => hd ?_
  have h1 : (divP p f (gcdP p f (deriv p f))).1 = [1] := mon_len1 mQ (by have := mQ.1; omega)
  have hG : ev p f = ev p (gcdP p f (deriv p f)) := by rw [hval, h1, ev_one, Px.one_mul]
  have h2 : Dv p f (deriv p f) := by
    have h3 := G.right
    rw [← ev_inj hp hf G.pol hG] at h3
    exact h3
  refine Classical.byContradiction fun h3 => ?_
  have h4 := (h2.len hP hf hdp h3).1
  have h5 := deriv_len (p := p) f
  omega

theorem FacOk.root (hP : M.Pr p) {l k : List (List Nat)} (hl : ∀ x ∈ l, MIrr p x) (hk : ∀ x ∈ k, MIrr p x) (e : ev p (prodL p l) = pw (ev p (prodL p k)) p) {t : Nat} {L : List (List Nat × Nat)} (h : FacOk (t * p) k L) : FacOk t l L := by
  have hp : 0 < p := by have := hP.1; omega
  have hc : ∀ g, MIrr p g → l.count g = k.count g * p := fun g hg => count_root hP hl hk hg e
  refine ⟨h.nodup, fun x hx => ?_, fun g hg => h.all g ?_⟩
  · obtain ⟨h1, h2⟩ := h.exp x hx
    have h3 := hc x.1 (hk _ h1)
    have h4 := List.count_pos_iff.2 h1
    refine ⟨List.count_pos_iff.1 ?_, ?_⟩
    · rw [h3]; exact Nat.mul_pos h4 hp
    · rw [h2, h3, Nat.mul_assoc, Nat.mul_comm p t]
  · have h3 := hc g (hl g hg)
    have h4 := List.count_pos_iff.2 hg
    refine List.count_pos_iff.1 (Nat.pos_of_ne_zero fun h0 => ?_)
    rw [h0, Nat.zero_mul] at h3; omega

theorem factLoop_is (hP : M.Pr p) : ∀ (n t : Nat) {f : List Nat} {l : List (List Nat)}, Pol p f → Mon f → f.length ≤ n → (∀ x ∈ l, MIrr p x) → ev p f = ev p (prodL p l) → ∃ L, factLoop p n t f = some L ∧ FacOk t l L
  | 0, t, f, l, hf, mf, hn, _, _ => by have := mf.1; omega
  | n + 1, t, f, l, hf, mf, hn, hl, e => by
    have hp2 := hP.1
    have hp : 0 < p := by omega
    have hm1 := mf.1
    rw [factLoop]
    by_cases h1 : f.length ≤ 1
    · rw [if_pos h1]
      have hf1 : f = [1] := mon_len1 mf (by omega)
      have hlnil : l = [] := by
        cases l with
        | nil => rfl
        | cons g r =>
          exfalso
          have h3 : Dv p g [1] := by
            rw [← dx_iff, ← hf1, e, dx_iff]
            exact dv_prodL_mem hP (fun x hx => (hl x hx).irr.pol) (by simp)
          have := dv_one hP (hl g (by simp)).irr.pol h3
          have := (hl g (by simp)).irr.two
          omega
      subst hlnil
      exact ⟨[], rfl, by simp, by simp, by simp⟩
    · rw [if_neg h1]
      by_cases hd : (deriv p f).length = 0
      · rw [if_pos hd]
        obtain ⟨r1, r2, _⟩ := root_is hP hf mf.1 hd
        have rm := mon_root hP hf mf hd
        obtain ⟨k, hk, ek⟩ := exists_fac hP _ (Nat.le_refl _) r1 rm
        have hrl : (rootP p f).length ≤ n := by
          rw [rt_len]
          have h4 : (f.length - 1) / p ≤ (f.length - 1) / 2 := Nat.div_le_div_left hp2 (by omega)
          omega
        obtain ⟨L, hL, hF⟩ := factLoop_is hP n (t * p) r1 rm hrl hk ek
        exact ⟨L, hL, FacOk.root hP hl hk (by rw [← e, r2, ek]) hF⟩
      · rw [if_neg hd]
        obtain ⟨k, S, mS, eS, hmem⟩ := simple_is hP hf mf hl e hd
        have hpm := splitP_perm hP S mS eS
        obtain ⟨ps, hps⟩ : ∃ ps, ps = splitP p (divP p f (gcdP p f (deriv p f))).1 := ⟨_, rfl⟩
        rw [← hps] at hpm ⊢
        have hpn : ps.Nodup := hpm.nodup_iff.2 S.nodup
        have hpi : ∀ x ∈ ps, MIrr p x := fun x hx => S.irr x (hpm.mem_iff.1 hx)
        obtain ⟨f', t1, t2, t3, t4⟩ := takeAll_is hP t ps hpn hpi hl hf mf e
        rw [t1]
        simp only
        have hl' : ∀ x ∈ l.filter (fun x => !ps.contains x), MIrr p x := fun x hx => hl x (List.mem_filter.1 hx).1
        -- the rest is shorter: something was taken out
        have hcl : ∀ x, x ∈ ps → x ∈ l := fun x hx => by
          have := (hmem x (hpi x hx)).1 (hpm.mem_iff.1 hx)
          exact List.count_pos_iff.1 (Nat.pos_of_ne_zero fun h0 => this ⟨0, by omega⟩)
        have hlen : f'.length ≤ n := by
          have hdv : DX p f' (ev p f) := by
            have hsplit : ev p (prodL p l) = ev p (prodL p (l.filter fun x => ps.contains x)) * ev p (prodL p (l.filter fun x => !ps.contains x)) := by
              rw [← ev_prodL_append]
              exact ev_prodL_perm (List.filter_append_perm _ l).symm
            exact ⟨_, prodL_isP hP (l := l.filter fun x => ps.contains x) (fun x hx => hl x (List.mem_filter.1 hx).1), by rw [e, hsplit, t4]⟩
          have h5 := ((dx_iff.1 hdv).len hP t2 hf mf.1).1
          refine Classical.byContradiction fun h6 => ?_
          have h7 : f'.length = f.length := by omega
          have h8 := mon_unique hP t2 hf t3 mf (dx_iff.1 hdv) (Dv.back hP t2 hf mf.1 h7 (dx_iff.1 hdv))
          have h9 : 0 < ps.length := by
            rw [hpm.length_eq]
            refine List.length_pos_iff.2 fun h => ?_
            have := S.two
            rw [h] at eS
            rw [ev_inj hp S.pol (pol_one hP) eS] at this
            simp at this
          obtain ⟨g, hg⟩ := List.length_pos_iff_exists_mem.1 h9
          have hperm := fac_perm hP hl' hl (by rw [← t4, ← e, h8])
          have := hperm.mem_iff.2 (hcl g hg)
          have := (List.mem_filter.1 this).2
          simp [hg] at this
        obtain ⟨L2, hL2, hF⟩ := factLoop_is hP n t t2 t3 hlen hl' t4
        rw [hL2]
        refine ⟨_, rfl, ?_, fun x hx => ?_, fun g hg => ?_⟩
        · rw [List.map_append, List.map_map]
          refine List.nodup_append.2 ⟨?_, hF.nodup, fun a ha b hb hab => ?_⟩
          · exact (List.map_id ps).symm ▸ hpn
          · subst hab
            obtain ⟨g, hg, rfl⟩ := List.mem_map.1 ha
            obtain ⟨x, hx, hxe⟩ := List.mem_map.1 hb
            have h3 := (hF.exp x hx).1
            rw [hxe] at h3
            have h4 := (List.mem_filter.1 h3).2
            simp only [Function.comp_apply] at h4
            simp [hg] at h4
        · rcases List.mem_append.1 hx with h | h
          · obtain ⟨g, hg, rfl⟩ := List.mem_map.1 h
            exact ⟨hcl g hg, rfl⟩
          · obtain ⟨h3, h4⟩ := hF.exp x h
            have h5 := List.mem_filter.1 h3
            refine ⟨h5.1, ?_⟩
            rw [h4, List.count_filter (p := fun x => !ps.contains x) h5.2]
        · by_cases hgp : g ∈ ps
          · exact ⟨(g, l.count g * t), List.mem_append.2 (.inl (List.mem_map.2 ⟨g, hgp, rfl⟩)), rfl⟩
          · obtain ⟨x, hx, hxe⟩ := hF.all g (List.mem_filter.2 ⟨hg, by simpa using hgp⟩)
            exact ⟨x, List.mem_append.2 (.inr hx), hxe⟩

/-! ### Irreducible -/
theorem lastC (hP : M.Pr p) {f : List Nat} (hf : Pol p f) (h0 : f.length ≠ 0) : ∃ c, c = f.getD (f.length - 1) 0 ∧ c < p ∧ c ≠ 0 ∧ ev p f = ev p [c] * ev p (monicP p f) := by
  obtain ⟨d, hd, hdp, hd0, hdc⟩ := monicC_pol hP hf h0
  have hm := monic_is hP hf h0
  refine ⟨_, rfl, hf.red.getD (by have := hP.1; omega) _, hf.ne h0, ?_⟩
  rw [hm.2.2.2.1, hd, show ev p [f.getD (f.length - 1) 0] * (ev p f * ev p [d]) = ev p [f.getD (f.length - 1) 0] * ev p [d] * ev p f by ac_rfl, ev_const_mul _ _ hdc, Px.one_mul]

theorem free_len (f : List Nat) : (fixedP p f).length = (freeL p (fixedMat p f)).length := by rw [fixedP_eq, List.length_map]

theorem irr_true (hP : M.Pr p) {f : List Nat} (hf : Pol p f) (h : irredP p f = true) : Irr p f := by
  have hp2 := hP.1
  have hp : 0 < p := by omega
  unfold irredP at h
  split at h
  · cases h
  · next hc =>
    rw [beq_iff_eq] at h
    have h2 : 2 ≤ f.length := by omega
    have hdp := drv_pol hp f
    have G := gcdP_is hP hf hdp
    have hne : gcdP p f (deriv p f) ≠ [] := fun h => by have := (G.zero.1 h).1; rw [this] at h2; simp at h2
    have mG := G.mon.resolve_left hne
    have hG1 : gcdP p f (deriv p f) = [1] := mon_len1 mG (by have := mG.1; omega)
    obtain ⟨c, _, hcp, hc0, ec⟩ := lastC hP hf (by omega)
    have hm := monic_is hP hf (by omega)
    obtain ⟨l, hl, el⟩ := exists_fac hP _ (Nat.le_refl _) hm.1 hm.2.1
    rw [el] at ec
    have hln : l.Nodup := by
      rw [List.nodup_iff_count]
      intro g
      by_cases hg : g ∈ l
      · have h3 := count_gcd hP hf (hl g hg) hl (E := []) (by simp) hcp hc0 ec (by rw [hG1]; rfl)
        rw [List.count_nil] at h3
        split at h3
        · have := List.count_pos_iff.2 hg; omega
        · omega
      · rw [List.count_eq_zero_of_not_mem hg]; omega
    have S : Sqf p f l := ⟨hln, hl, hf, h2, c, hcp, hc0, ec⟩
    have h3 := S.count hP
    rw [h] at h3
    match l, h3 with
    | [], _ =>
      exfalso
      have e1 := ev_inj hp hm.1 (pol_one hP) el
      have := hm.2.2.1
      rw [e1] at this
      simp at this
      omega
    | [g], _ =>
      have hg := hl g (by simp)
      have e1 : ev p (monicP p f) = ev p g := by rw [el, ev_prodL_cons, show ev p (prodL p []) = 1 from ev_one, Px.mul_one]
      have e2 := ev_inj hp hm.1 hg.irr.pol e1
      refine ⟨hf, h2, fun d hd hdv => ?_⟩
      rw [← hm.2.2.1, e2]
      refine hg.irr.dv d hd ?_
      rw [← e2]
      obtain ⟨q, hq, eq⟩ := hdv
      rw [← dx_iff, hm.2.2.2.1, eq]
      exact ⟨ev p q * ev p (monicC p f), (IsP.ev hq).mul hP (by obtain ⟨d, h, _⟩ := monicC_pol hP hf (by omega); rw [h]; exact IsP.const hp d), by ac_rfl⟩

theorem irr_false (hP : M.Pr p) {f : List Nat} (h : Irr p f) : irredP p f = true := by
  have hp2 := hP.1
  have hp : 0 < p := by omega
  have hf := h.pol
  have h2 := h.two
  have hdp := drv_pol hp f
  have hg : gcdP p f (deriv p f) = [1] := (h.gcd hP hdp).resolve_left fun hd => by
    have h1 := (hd.len hP hf hdp (h.deriv hP)).1
    have h3 := deriv_len (p := p) f
    omega
  unfold irredP
  rw [if_neg (by rw [hg]; simp; omega), beq_iff_eq, free_len]
  have h0 := (free_zero hP hf h2).1
  have K := fixed_kernel hP hf h2
  have hall : ∀ j ∈ freeL p (fixedMat p f), j = 0 := fun j hj => by
    have B := bas_pol hP h2 j
    obtain ⟨s, hs, hc⟩ := fixed_const hP h (Dv.refl (by omega) f) B.1 (bas_fx hP hf h2 hj)
    rw [← ev_trim [s]] at hc
    have l1 := trim1_len s
    have e1 := low_cg hP B.1 (pol_trim1 hp s hs) hf B.2 (by omega) hc
    have e2 := (K.free j hj).2 j hj
    rw [if_pos rfl] at e2
    have e3 : (basP p f j).getD j 0 = 1 := by unfold basP; rw [trim_getD]; exact e2
    refine Classical.byContradiction fun hj0 => ?_
    rw [e1, trim_getD] at e3
    rw [getD_out (by simp; omega)] at e3
    omega
  have hle := inj_len (fun j : Nat => j) (freeL p (fixedMat p f)) [0] (freeL_nodup _) (fun _ _ _ _ e => e) fun j hj => by simp [hall j hj]
  have hge := List.length_pos_of_mem h0
  simp at hle
  omega

theorem irr_iff (hP : M.Pr p) {f : List Nat} (hf : Pol p f) : irredP p f = true ↔ Irr p f := ⟨irr_true hP hf, irr_false hP⟩

end Q
end Go.Proofs.YtgcjdojhfimceaaGreat

namespace Go.Proofs.YtgcjdojhfimceaaGreat
namespace Q
variable {p : Nat}

def evE (p : Nat) : List (List Nat × Nat) → Px p
  | [] => 1
  | x :: L => pw (ev p x.1) x.2 * evE p L
theorem fac_evE (hP : M.Pr p) : ∀ (L : List (List Nat × Nat)) {l : List (List Nat)}, (∀ x ∈ l, MIrr p x) → FacOk 1 l L → ev p (prodL p l) = evE p L
  | [], l, hl, h => by
    have : l = [] := by
      cases l with
      | nil => rfl
      | cons g r => obtain ⟨x, hx, _⟩ := h.all g (by simp); simp at hx
    subst this
    exact ev_one
  | x :: L, l, hl, h => by
    have hx := h.exp x (by simp)
    have hg := hl _ hx.1
    have hn := h.nodup
    rw [List.map_cons] at hn
    have hn1 := List.nodup_cons.1 hn
    rw [count_out hP hg hl, evE, hx.2, Nat.mul_one]
    congr 1
    refine fac_evE hP L (filter_irr hl) ⟨hn1.2, fun y hy => ?_, fun g hg2 => ?_⟩
    · have hy1 := h.exp y (by simp [hy])
      have hne : y.1 ≠ x.1 := fun e => hn1.1 (e ▸ List.mem_map.2 ⟨y, hy, rfl⟩)
      exact ⟨List.mem_filter.2 ⟨hy1.1, by simpa using hne⟩, by rw [hy1.2, count_filter_ne hne]⟩
    · have h2 := List.mem_filter.1 hg2
      obtain ⟨y, hy, hye⟩ := h.all g h2.1
      rcases List.mem_cons.1 hy with rfl | hy
      · have := h2.2; simp [hye] at this
      · exact ⟨y, hy, hye⟩

theorem FacOk.perm {t : Nat} {l : List (List Nat)} {L L' : List (List Nat × Nat)} (h : FacOk t l L) (hp : L'.Perm L) : FacOk t l L' :=
  ⟨(hp.map _).nodup_iff.2 h.nodup, fun x hx => h.exp x (hp.mem_iff.1 hx), fun g hg => by obtain ⟨x, hx, e⟩ := h.all g hg; exact ⟨x, hp.mem_iff.2 hx, e⟩⟩

/-! ### Exponents -/
def expE (L : List (List Nat × Nat)) (g : List Nat) : Nat := (L.map fun x => if x.1 = g then x.2 else 0).sum
theorem expE_take (L : List (List Nat × Nat)) (g : List Nat) (k : Nat) (h : k < L.length) : expE (L.take (k + 1)) g = expE (L.take k) g + if L[k].1 = g then L[k].2 else 0 := by
  unfold expE
  rw [List.take_succ_eq_append_getElem h, List.map_append, List.sum_append]; simp
theorem expE_not {L : List (List Nat × Nat)} {g : List Nat} (h : ∀ x ∈ L, x.1 ≠ g) : expE L g = 0 := by
  induction L with
  | nil => rfl
  | cons x L ih =>
    unfold expE at ih ⊢
    rw [List.map_cons, List.sum_cons, ih fun y hy => h y (by simp [hy]), if_neg (h x (by simp))]
theorem expE_mem {L : List (List Nat × Nat)} (hn : (L.map fun x => x.1).Nodup) {x : List Nat × Nat} (hx : x ∈ L) : expE L x.1 = x.2 := by
  induction L with
  | nil => simp at hx
  | cons y L ih =>
    rw [List.map_cons] at hn
    have hn1 := List.nodup_cons.1 hn
    unfold expE
    rw [List.map_cons, List.sum_cons]
    rcases List.mem_cons.1 hx with rfl | hx
    · rw [if_pos rfl]
      have := expE_not (L := L) (g := x.1) fun z hz e => hn1.1 (e ▸ List.mem_map.2 ⟨z, hz, rfl⟩)
      unfold expE at this; rw [this]; rfl
    · rw [if_neg fun e : y.1 = x.1 => hn1.1 (by rw [e]; exact List.mem_map.2 ⟨x, hx, rfl⟩)]
      have := ih hn1.2 hx
      unfold expE at this; rw [this, Nat.zero_add]
theorem expE_fac {l : List (List Nat)} {L : List (List Nat × Nat)} (h : FacOk 1 l L) (g : List Nat) : expE L g = l.count g := by
  by_cases hg : g ∈ l
  · obtain ⟨x, hx, rfl⟩ := h.all g hg
    rw [expE_mem h.nodup hx, (h.exp x hx).2, Nat.mul_one]
  · rw [List.count_eq_zero_of_not_mem hg]
    exact expE_not fun x hx e => hg (by have := (h.exp x hx).1; rw [e] at this; exact this)
theorem expE_le {L : List (List Nat × Nat)} (g : List Nat) (k : Nat) : expE (L.take k) g ≤ expE L g := by
  have : expE L g = expE (L.take k) g + expE (L.drop k) g := by
    unfold expE
    rw [← List.sum_append, ← List.map_append, List.take_append_drop]
  omega

/-! ### Multiplied together -/
def powM (p : Nat) (out g : List Nat) : Nat → List Nat
  | 0 => out
  | e + 1 => prodP' p (powM p out g e) g
def accP (p : Nat) : List Nat → List (List Nat × Nat) → List Nat
  | out, [] => out
  | out, x :: L => accP p (powM p out x.1 x.2) L
def dgE (L : List (List Nat × Nat)) : Nat := (L.map fun x => x.2 * (x.1.length - 1)).sum

theorem accP_append : ∀ (L : List (List Nat × Nat)) (K : List (List Nat × Nat)) (out : List Nat), accP p out (L ++ K) = accP p (accP p out L) K
  | [], _, _ => rfl
  | x :: L, K, out => accP_append L K (powM p out x.1 x.2)
theorem accP_take (L : List (List Nat × Nat)) (out : List Nat) (k : Nat) (h : k < L.length) : accP p out (L.take (k + 1)) = powM p (accP p out (L.take k)) L[k].1 L[k].2 := by
  rw [List.take_succ_eq_append_getElem h, accP_append]; rfl
theorem dgE_take (L : List (List Nat × Nat)) (k : Nat) (h : k < L.length) : dgE L = dgE (L.take k) + L[k].2 * (L[k].1.length - 1) + dgE (L.drop (k + 1)) := by
  have h2 : L.drop k = L[k] :: L.drop (k + 1) := List.drop_eq_getElem_cons h
  unfold dgE
  have h3 : L.map (fun x => x.2 * (x.1.length - 1)) = (L.take k).map (fun x => x.2 * (x.1.length - 1)) ++ (L.drop k).map (fun x => x.2 * (x.1.length - 1)) := by rw [← List.map_append, List.take_append_drop]
  rw [h3, List.sum_append, h2, List.map_cons, List.sum_cons, Nat.add_assoc]

theorem powM_is (hP : M.Pr p) {out g : List Nat} (ho : Pol p out) (h0 : out.length ≠ 0) (hg : MIrr p g) : ∀ e, Pol p (powM p out g e) ∧ (powM p out g e).length = out.length + e * (g.length - 1) ∧ ev p (powM p out g e) = ev p out * pw (ev p g) e
  | 0 => ⟨ho, by rw [powM]; omega, by rw [powM, pw_zero, Px.mul_one]⟩
  | e + 1 => by
    obtain ⟨i1, i2, i3⟩ := powM_is hP ho h0 hg e
    have h2 := hg.irr.two
    refine ⟨pol_prod hP i1 hg.irr.pol, ?_, ?_⟩
    · rw [powM, prod_length (by omega) (by omega), i2, Nat.succ_mul]; omega
    · rw [powM, ev_prod, i3, pw_succ]; ac_rfl

theorem accP_is (hP : M.Pr p) : ∀ (L : List (List Nat × Nat)) {out : List Nat}, Pol p out → out.length ≠ 0 → (∀ x ∈ L, MIrr p x.1) → Pol p (accP p out L) ∧ (accP p out L).length = out.length + dgE L ∧ ev p (accP p out L) = ev p out * evE p L
  | [], out, ho, h0, _ => ⟨ho, rfl, by rw [evE, Px.mul_one]; rfl⟩
  | x :: L, out, ho, h0, hL => by
    obtain ⟨j1, j2, j3⟩ := powM_is hP ho h0 (hL x (by simp)) x.2
    obtain ⟨i1, i2, i3⟩ := accP_is hP L j1 (by omega) fun y hy => hL y (by simp [hy])
    refine ⟨i1, ?_, ?_⟩
    · show (accP p (powM p out x.1 x.2) L).length = _
      rw [i2, j2]
      unfold dgE
      rw [List.map_cons, List.sum_cons]; omega
    · show ev p (accP p (powM p out x.1 x.2) L) = _
      rw [i3, j3, evE]; ac_rfl

theorem ordP_swap : ∀ f g : List Nat, ordP g f = - ordP f g
  | [], [] => rfl
  | [], _ :: _ => rfl
  | _ :: _, [] => rfl
  | a :: f, b :: g => by
    rw [ordP, ordP, ordP_swap f g]
    by_cases h : ordP f g = 0
    · simp only [h, Int.neg_zero, if_true]
      split
      · next h1 => rw [if_neg (by omega)]
      · next h1 =>
        split
        · rfl
        · rfl
    · simp only [h, if_false, Int.neg_eq_zero]
theorem ordP_zero : ∀ f g : List Nat, ordP f g = 0 → f = g
  | [], [], _ => rfl
  | [], _ :: _, h => by simp [ordP] at h
  | _ :: _, [], h => by simp [ordP] at h
  | a :: f, b :: g, h => by
    rw [ordP] at h
    by_cases h1 : ordP f g = 0
    · simp only [h1, if_true] at h
      split at h
      · cases h
      · split at h
        · cases h
        · rw [ordP_zero f g h1, show a = b by omega]
    · simp only [h1, if_false] at h

/-- What is known of the factors of F, in their order. -/
structure FacL (p : Nat) (F : List Nat) (L : List (List Nat × Nat)) (l : List (List Nat)) : Prop where
  irr : ∀ x ∈ l, MIrr p x
  ok : FacOk 1 l L
  val : ev p F = ev p [F.getD (F.length - 1) 0] * ev p (prodL p l)
  asc : ∀ i (h : i + 1 < L.length), ordP (L[i]'(by omega)).1 (L[i + 1]).1 < 0

theorem facL_of (hP : M.Pr p) {F : List Nat} (hF : Pol p F) (h0 : F.length ≠ 0) (hl : F.length ≤ 34) {fin L : List (List Nat × Nat)} (hfin : factLoop p 34 1 (monicP p F) = some fin) (hperm : L.Perm fin) (hs : L.Pairwise fun a b => ¬ ordP b.1 a.1 < 0) : ∃ l, FacL p F L l := by
  have hm := monic_is hP hF h0
  obtain ⟨l, hli, el⟩ := exists_fac hP _ (Nat.le_refl _) hm.1 hm.2.1
  obtain ⟨fin', h1, h2⟩ := factLoop_is hP 34 1 hm.1 hm.2.1 (by rw [hm.2.2.1]; exact hl) hli el
  rw [hfin] at h1
  injection h1 with h1
  subst h1
  have ok := h2.perm hperm
  obtain ⟨c, hc, _, _, ec⟩ := lastC hP hF h0
  refine ⟨l, hli, ok, by rw [← hc, ec, el], fun i h => ?_⟩
  have h3 := List.pairwise_iff_getElem.1 hs i (i + 1) (by omega) h (by omega)
  have h4 := ordP_swap (L[i]'(by omega)).1 (L[i + 1]).1
  have h5 : ordP (L[i]'(by omega)).1 (L[i + 1]).1 ≠ 0 := fun e => by
    have h6 := ordP_zero _ _ e
    have h7 := List.pairwise_iff_getElem.1 ok.nodup i (i + 1) (by simp; omega) (by simp; omega) (by omega)
    simp only [List.getElem_map] at h7
    exact h7 h6
  omega

theorem FacL.mem {F : List Nat} {L : List (List Nat × Nat)} {l : List (List Nat)} (h : FacL p F L l) : ∀ x ∈ L, MIrr p x.1 ∧ 1 ≤ x.2 := fun x hx => by
  obtain ⟨h1, h2⟩ := h.ok.exp x hx
  have := List.count_pos_iff.2 h1
  exact ⟨h.irr _ h1, by omega⟩

/-- Multiplied together again they are F. -/
theorem FacL.acc (hP : M.Pr p) {F : List Nat} (hF : Pol p F) (h0 : F.length ≠ 0) {L : List (List Nat × Nat)} {l : List (List Nat)} (h : FacL p F L l) : accP p [F.getD (F.length - 1) 0] L = F ∧ F.length = 1 + dgE L := by
  have hc := hF.red.getD (by have := hP.1; omega) (F.length - 1)
  have hc0 := hF.ne h0
  obtain ⟨a1, a2, a3⟩ := accP_is hP L (pol_const hc hc0) (by simp) fun x hx => (h.mem x hx).1
  have e : accP p [F.getD (F.length - 1) 0] L = F := ev_inj (by have := hP.1; omega) a1 hF (by rw [a3, h.val, fac_evE hP L h.irr h.ok])
  refine ⟨e, ?_⟩
  rw [e] at a2
  simpa using a2

theorem FacL.part (hP : M.Pr p) {F : List Nat} (hF : Pol p F) (h0 : F.length ≠ 0) {L : List (List Nat × Nat)} {l : List (List Nat)} (h : FacL p F L l) (i : Nat) (hi : i < L.length) (k : Nat) (hk : k ≤ L[i].2) :
    Pol p (powM p (accP p [F.getD (F.length - 1) 0] (L.take i)) L[i].1 k) ∧ (powM p (accP p [F.getD (F.length - 1) 0] (L.take i)) L[i].1 k).length ≤ F.length ∧ (powM p (accP p [F.getD (F.length - 1) 0] (L.take i)) L[i].1 k).length ≠ 0 := by
  have hc := hF.red.getD (by have := hP.1; omega) (F.length - 1)
  have hc0 := hF.ne h0
  obtain ⟨a1, a2, _⟩ := accP_is hP (L.take i) (pol_const hc hc0) (by simp) fun x hx => (h.mem x (List.mem_of_mem_take hx)).1
  obtain ⟨b1, b2, _⟩ := powM_is hP a1 (by rw [a2]; simp) (h.mem _ (List.getElem_mem hi)).1 k
  have h1 := (h.acc hP hF h0).2
  have h2 := dgE_take L i hi
  have h3 : k * (L[i].1.length - 1) ≤ L[i].2 * (L[i].1.length - 1) := Nat.mul_le_mul_right _ hk
  rw [a2] at b2
  simp only [List.length_singleton] at b2
  exact ⟨b1, by omega, by omega⟩

theorem FacL.small (hP : M.Pr p) {F : List Nat} (hF : Pol p F) (h0 : F.length ≠ 0) {L : List (List Nat × Nat)} {l : List (List Nat)} (h : FacL p F L l) (i : Nat) (hi : i < L.length) : L[i].2 ≤ F.length ∧ L[i].1.length ≤ F.length := by
  have h1 := (h.acc hP hF h0).2
  have h2 := dgE_take L i hi
  have h3 := h.mem _ (List.getElem_mem hi)
  have h4 := h3.1.irr.two
  have h5 : L[i].2 * 1 ≤ L[i].2 * (L[i].1.length - 1) := Nat.mul_le_mul_left _ (by omega)
  have h6 : 1 * (L[i].1.length - 1) ≤ L[i].2 * (L[i].1.length - 1) := Nat.mul_le_mul_right _ h3.2
  omega

theorem FacL.len (hP : M.Pr p) {F : List Nat} (hF : Pol p F) (h0 : F.length ≠ 0) {L : List (List Nat × Nat)} {l : List (List Nat)} (h : FacL p F L l) : L.length ≤ F.length := by
  have h1 := (h.acc hP hF h0).2
  have : ∀ K : List (List Nat × Nat), (∀ x ∈ K, MIrr p x.1 ∧ 1 ≤ x.2) → K.length ≤ dgE K := by
    intro K hK
    induction K with
    | nil => simp
    | cons x K ih =>
      have h3 := hK x (by simp)
      have h4 := h3.1.irr.two
      have h5 : 1 * 1 ≤ x.2 * (x.1.length - 1) := Nat.mul_le_mul h3.2 (by omega)
      have := ih fun y hy => hK y (by simp [hy])
      unfold dgE at this ⊢
      rw [List.map_cons, List.sum_cons, List.length_cons]; omega
  have := this L h.mem
  omega

/-- The last coefficient of a product. -/
theorem prod_lastC {F G : List Nat} (hf : F.length ≠ 0) (hg : G.length ≠ 0) : (prodP' p F G).getD ((prodP' p F G).length - 1) 0 = F.getD (F.length - 1) 0 * G.getD (G.length - 1) 0 % p := by
  have h1 := prod_len (p := p) hf hg
  have h2 := prod_getD p F G (F.length + G.length - 2)
  rw [cau_top hf hg] at h2
  unfold cf at h2
  rw [show (prodP' p F G).length - 1 = F.length + G.length - 2 by omega]
  exact_mod_cast h2

/-- The exponents of a product are the sums of those of both factors. -/
theorem exp_sum (hP : M.Pr p) {F G : List Nat} (hF : Pol p F) (hG : Pol p G) (hf : F.length ≠ 0) (hg : G.length ≠ 0) {L K N : List (List Nat × Nat)} {l k n : List (List Nat)} (hL : FacL p F L l) (hK : FacL p G K k) (hN : FacL p (prodP' p F G) N n) (g : List Nat) : expE N g = expE L g + expE K g := by
  have hp : 0 < p := by have := hP.1; omega
  rw [expE_fac hL.ok, expE_fac hK.ok, expE_fac hN.ok, ← List.count_append]
  refine List.Perm.count_eq ?_ g
  have hlk : ∀ x ∈ l ++ k, MIrr p x := fun x hx => (List.mem_append.1 hx).elim (hL.irr x) (hK.irr x)
  refine fac_perm hP hN.irr hlk ?_
  have e := hN.val
  rw [ev_prod, hL.val, hK.val, prod_lastC hf hg, ← ev_const_congr (c := F.getD (F.length - 1) 0 * G.getD (G.length - 1) 0) (d := F.getD (F.length - 1) 0 * G.getD (G.length - 1) 0 % p) (by simp), ← ev_const_mul'] at e
  rw [ev_prodL_append]
  have hcf := IsP.const (p := p) hp (F.getD (F.length - 1) 0)
  have hcg := IsP.const (p := p) hp (G.getD (G.length - 1) 0)
  have n1 : ev p [F.getD (F.length - 1) 0] ≠ 0 := ev_ne hP (pol_const (hF.red.getD hp _) (hF.ne hf)) (by simp)
  have n2 : ev p [G.getD (G.length - 1) 0] ≠ 0 := ev_ne hP (pol_const (hG.red.getD hp _) (hG.ne hg)) (by simp)
  refine cancelX hP (prodL_isP hP hN.irr) ((prodL_isP hP hL.irr).mul hP (prodL_isP hP hK.irr)) (hcf.mul hP hcg) (mul_ne0 hP hcf hcg n1 n2) ?_
  rw [Px.mul_comm, ← e]; ac_rfl

end Q
end Go.Proofs.YtgcjdojhfimceaaGreat

namespace Go.Proofs.YtgcjdojhfimceaaGreat
namespace Q
variable {p : Nat}

def rootF (p : Nat) (rs : List Nat) : List Nat := rs.foldl (fun f x => prodP' p f (lin p x)) [1]
theorem rootF_push (rs : List Nat) (x : Nat) : rootF p (rs ++ [x]) = prodP' p (rootF p rs) (lin p x) := by unfold rootF; rw [List.foldl_append]; rfl

theorem lin_mirr (hP : M.Pr p) (x : Nat) : MIrr p (lin p x) := by
  have h2 := hP.1
  refine ⟨⟨pol_lin h2 x, by simp [lin], fun d hd hdv => ?_⟩, by simp [lin], by simp [lin]⟩
  have h := hdv.len hP hd (pol_lin h2 x) (by simp [lin])
  simp [lin] at h ⊢
  have h0 : d.length ≠ 0 := fun e => h.2 (List.eq_nil_of_length_eq_zero e)
  omega
theorem lin_inj {x y : Nat} (hx : x < p) (hy : y < p) (h : lin p x = lin p y) : x = y := by
  unfold lin at h
  injection h with h
  by_cases h1 : x = 0
  · subst h1
    by_cases h2 : y = 0
    · omega
    · rw [Nat.sub_zero, Nat.mod_self, Nat.mod_eq_of_lt (by omega)] at h; omega
  · by_cases h2 : y = 0
    · subst h2; rw [Nat.sub_zero, Nat.mod_self, Nat.mod_eq_of_lt (by omega)] at h; omega
    · rw [Nat.mod_eq_of_lt (by omega), Nat.mod_eq_of_lt (by omega)] at h; omega

theorem foldl_lin (hP : M.Pr p) : ∀ (rs : List Nat) {f : List Nat}, Pol p f → Mon f → Pol p (rs.foldl (fun f x => prodP' p f (lin p x)) f) ∧ Mon (rs.foldl (fun f x => prodP' p f (lin p x)) f) ∧ (rs.foldl (fun f x => prodP' p f (lin p x)) f).length = f.length + rs.length ∧ ev p (rs.foldl (fun f x => prodP' p f (lin p x)) f) = ev p f * ev p (prodL p (rs.map (lin p)))
  | [], f, hf, mf => ⟨hf, mf, rfl, by rw [List.map_nil, show ev p (prodL p []) = 1 from ev_one, Px.mul_one]; rfl⟩
  | x :: rs, f, hf, mf => by
    have hl := lin_mirr hP x
    have hm := mon_prod hP hf hl.irr.pol mf hl.mon
    obtain ⟨i1, i2, i3, i4⟩ := foldl_lin hP rs (pol_prod hP hf hl.irr.pol) hm
    have h1 := mf.1
    refine ⟨i1, i2, ?_, ?_⟩
    · show (rs.foldl (fun f x => prodP' p f (lin p x)) (prodP' p f (lin p x))).length = _
      rw [i3, prod_length mf.1 (by simp [lin])]; simp [lin]; omega
    · show ev p (rs.foldl (fun f x => prodP' p f (lin p x)) (prodP' p f (lin p x))) = _
      rw [i4, ev_prod, List.map_cons, ev_prodL_cons]; ac_rfl

structure RootsIs (p : Nat) (rs : List Nat) (f : List Nat) : Prop where
  pol : Pol p f
  mon : Mon f
  len : f.length = rs.length + 1
  val : ev p f = ev p (prodL p (rs.map (lin p)))
theorem rootF_is (hP : M.Pr p) (rs : List Nat) : RootsIs p rs (rootF p rs) := by
  obtain ⟨h1, h2, h3, h4⟩ := foldl_lin hP rs (pol_one hP) (show Mon [1] from ⟨by simp, rfl⟩)
  exact ⟨h1, h2, by unfold rootF; rw [h3]; simp; omega, by unfold rootF; rw [h4, ev_one, Px.one_mul]⟩

theorem RootsIs.zero (hP : M.Pr p) {rs f : List Nat} (h : RootsIs p rs f) {x : Nat} (hx : x ∈ rs) (hp : x < p) : valP p f x = 0 := by
  have hl : ∀ g ∈ rs.map (lin p), MIrr p g := fun g hg => by obtain ⟨y, _, rfl⟩ := List.mem_map.1 hg; exact lin_mirr hP y
  have h1 : Dv p (lin p x) f := by
    rw [← dx_iff, h.val, dx_iff]
    exact dv_prodL_mem hP (fun g hg => (hl g hg).irr.pol) (List.mem_map.2 ⟨x, hx, rfl⟩)
  have h2 := (rem_nil_iff hP h.pol (pol_lin hP.1 x) (by simp [lin])).2 h1
  rw [div_lin hP (by omega) h.pol] at h2
  refine trim1_inj (v := valP p f x) (u := 0) ?_
  rw [h2]; rfl

theorem RootsIs.fac (hP : M.Pr p) {rs f : List Nat} (h : RootsIs p rs f) (hn : rs.Nodup) (hlt : ∀ x ∈ rs, x < p) {L : List (List Nat × Nat)} {l : List (List Nat)} (H : FacL p f L l) : L.length = rs.length ∧ ∀ x ∈ L, x.1.length = 2 ∧ x.2 = 1 := by
  have hl : ∀ g ∈ rs.map (lin p), MIrr p g := fun g hg => by obtain ⟨y, _, rfl⟩ := List.mem_map.1 hg; exact lin_mirr hP y
  have hpm : l.Perm (rs.map (lin p)) := by
    refine fac_perm hP H.irr hl ?_
    rw [← h.val, H.val, h.mon.2, ev_one, Px.one_mul]
  have hnm : (rs.map (lin p)).Nodup := by
    unfold List.Nodup
    rw [List.pairwise_map]
    refine List.Pairwise.imp_of_mem ?_ hn
    intro a b ha hb hab e
    exact hab (lin_inj (hlt a ha) (hlt b hb) e)
  have hln : l.Nodup := hpm.nodup_iff.2 hnm
  constructor
  · have h1 := inj_len (fun g : List Nat => g) l (L.map fun x => x.1) hln (fun _ _ _ _ e => e) fun g hg => by
      obtain ⟨x, hx, e⟩ := H.ok.all g hg; exact List.mem_map.2 ⟨x, hx, e⟩
    have h2 := inj_len (fun g : List Nat => g) (L.map fun x => x.1) l H.ok.nodup (fun _ _ _ _ e => e) fun g hg => by
      obtain ⟨x, hx, rfl⟩ := List.mem_map.1 hg; exact (H.ok.exp x hx).1
    have h3 := hpm.length_eq
    simp at h1 h2 h3; omega
  · intro x hx
    obtain ⟨h1, h2⟩ := H.ok.exp x hx
    have h3 := hpm.mem_iff.1 h1
    obtain ⟨y, _, hy⟩ := List.mem_map.1 h3
    refine ⟨by rw [← hy]; rfl, ?_⟩
    have h4 := (List.nodup_iff_count.1 hln) x.1
    have h5 := List.count_pos_iff.2 h1
    omega

end Q
end Go.Proofs.YtgcjdojhfimceaaGreat

namespace Go.Proofs.YtgcjdojhfimceaaGreat
namespace Q
variable {p : Nat}

theorem perm_of_sub {α : Type} [DecidableEq α] {l1 : List α} : ∀ {l2 : List α}, l1.Nodup → (∀ x ∈ l1, x ∈ l2) → l2.length ≤ l1.length → l1.Perm l2 := by
  induction l1 with
  | nil => intro l2 _ _ hl; have : l2 = [] := List.eq_nil_of_length_eq_zero (by simpa using hl); subst this; exact List.Perm.refl _
  | cons a l ih =>
    intro l2 h1 hs hl
    have ha : a ∈ l2 := hs a (by simp)
    have hp := List.perm_cons_erase ha
    refine List.Perm.trans (List.Perm.cons a (ih (List.nodup_cons.1 h1).2 ?_ ?_)) hp.symm
    · intro x hx
      have hxa : x ≠ a := fun e => (List.nodup_cons.1 h1).1 (e ▸ hx)
      exact (List.mem_erase_of_ne hxa).2 (hs x (by simp [hx]))
    · rw [List.length_erase_of_mem ha]; simp at hl; omega

/-! ### The residues modulo an irreducible polynomial -/
def resid (p d : Nat) : List (List Nat) := (tuples p d).map trim
theorem trim_inj {f g : List Nat} (hl : f.length = g.length) (h : trim f = trim g) : f = g :=
  ext_getD hl fun i _ => by rw [← trim_getD f, ← trim_getD g, h]
theorem resid_nodup (d : Nat) : (resid p d).Nodup := by
  unfold resid List.Nodup
  rw [List.pairwise_map]
  refine List.Pairwise.imp_of_mem ?_ (tuples_nodup (p := p) d)
  intro a b ha hb hab e
  exact hab (trim_inj (((mem_tuples d a).1 ha).1.trans ((mem_tuples d b).1 hb).1.symm) e)
theorem resid_len (d : Nat) : (resid p d).length = p ^ d := by rw [resid, List.length_map, tuples_len]
theorem mem_resid (hp : 0 < p) (d : Nat) (f : List Nat) : f ∈ resid p d ↔ Pol p f ∧ f.length ≤ d := by
  constructor
  · intro h
    obtain ⟨t, ht, rfl⟩ := List.mem_map.1 h
    have h1 := (mem_tuples d t).1 ht
    exact ⟨Red.trim (fun x hx => h1.2 x hx), by rw [trim_length, ← h1.1]; exact trimLen_le t⟩
  · rintro ⟨hf, hl⟩
    refine List.mem_map.2 ⟨f ++ List.replicate (d - f.length) 0, (mem_tuples d _).2 ⟨by simp; omega, fun x hx => ?_⟩, ?_⟩
    · rcases List.mem_append.1 hx with h | h
      · exact hf.red x h
      · rw [(List.mem_replicate.1 h).2]; exact hp
    · have hr : Red p (f ++ List.replicate (d - f.length) 0) := fun x hx => by
        rcases List.mem_append.1 hx with h | h
        · exact hf.red x h
        · rw [(List.mem_replicate.1 h).2]; exact hp
      refine hr.trim.ext hf fun i => ?_
      rw [trim_getD]
      by_cases hi : i < f.length
      · simp [List.getD, List.getElem?_append_left hi]
      · rw [getD_out (f := f) (by omega), List.getD_eq_getElem?_getD, List.getElem?_append_right (by omega)]
        simp only [List.getElem?_replicate]
        split <;> rfl

/-- Fermat's theorem for the residues. -/
theorem fermat_ne (hP : M.Pr p) {g h : List Nat} (hg : Irr p g) (hh : Pol p h) (hn : ¬ Dv p g h) : Cg p g (pw (ev p h) (p ^ (g.length - 1) - 1)) 1 := by
  have hp2 := hP.1
  have hp : 0 < p := by omega
  have h2 := hg.two
  obtain ⟨d, hd⟩ : ∃ d, d = g.length - 1 := ⟨_, rfl⟩
  obtain ⟨N, hN⟩ : ∃ N, N = (resid p d).filter fun x => x != [] := ⟨_, rfl⟩
  have hmem : ∀ x, x ∈ N ↔ (Pol p x ∧ x.length < g.length ∧ x ≠ []) := fun x => by
    rw [hN, List.mem_filter, mem_resid hp]
    simp only [bne_iff_ne, ne_eq]
    constructor
    · rintro ⟨⟨h1, h3⟩, h4⟩; exact ⟨h1, by omega, h4⟩
    · rintro ⟨h1, h3, h4⟩; exact ⟨⟨h1, by omega⟩, h4⟩
  have hNn : N.Nodup := by rw [hN]; exact List.Pairwise.filter _ (resid_nodup d)
  have hNl : N.length = p ^ d - 1 := by
    have h1 : (resid p d).length = N.length + ((resid p d).filter fun x => !(x != [])).length := by
      rw [hN, ← List.length_append]
      exact (List.filter_append_perm _ _).length_eq.symm
    have h3 : ((resid p d).filter fun x => !(x != [])).Perm [[]] := by
      refine perm_of_sub (List.Pairwise.filter _ (resid_nodup d)) (fun x hx => by have := (List.mem_filter.1 hx).2; simp at this; simp [this]) ?_
      refine List.length_pos_of_mem (a := []) ?_
      exact List.mem_filter.2 ⟨(mem_resid hp d []).2 ⟨Pol.nil p, by simp⟩, by simp⟩
    rw [h3.length_eq, resid_len] at h1
    simp at h1; omega
  have hdvn : ∀ x ∈ N, ¬ Dv p g x := fun x hx hdv => by
    obtain ⟨h1, h3, h4⟩ := (hmem x).1 hx
    have := (hdv.len hP hg.pol h1 (fun h0 => h4 (List.eq_nil_of_length_eq_zero h0))).1
    omega
  -- multiplication by h permutes them
  have hmul : ∀ x, Pol p x → Cg p g (ev p h * ev p x) (ev p (remP p (prodP' p h x) g)) := fun x hx => by
    have := rem_cg hP (pol_prod hP hh hx) hg.pol (by omega)
    rwa [ev_prod] at this
  have hmap : ∀ x ∈ N, remP p (prodP' p h x) g ∈ N := fun x hx => by
    obtain ⟨h1, h3, h4⟩ := (hmem x).1 hx
    have D := div_is hP (pol_prod hP hh h1) hg.pol (by omega)
    refine (hmem _).2 ⟨D.rpol, D.rlen, fun h0 => ?_⟩
    have h5 := (rem_nil_iff hP (pol_prod hP hh h1) hg.pol (by omega)).1 h0
    rcases hg.prime hP hh h1 h5 with h6 | h6
    · exact hn h6
    · exact hdvn x hx h6
  have hinj : ∀ x ∈ N, ∀ y ∈ N, remP p (prodP' p h x) g = remP p (prodP' p h y) g → x = y := fun x hx y hy e => by
    obtain ⟨x1, x2, x3⟩ := (hmem x).1 hx
    obtain ⟨y1, y2, y3⟩ := (hmem y).1 hy
    have c := (hmul x x1).trans hp ((e ▸ Cg.refl _ : Cg p g (ev p (remP p (prodP' p h x) g)) (ev p (remP p (prodP' p h y) g))).trans hp ((hmul y y1).symm hp))
    unfold Cg at c
    rw [← Px.mul_sub] at c
    rcases hg.primeX hP (IsP.ev hh) ((IsP.ev x1).sub hp (IsP.ev y1)) c with h5 | h5
    · exact absurd (dx_iff.1 h5) hn
    · exact low_cg hP x1 y1 hg.pol x2 y2 h5
  have hperm : (N.map fun x => remP p (prodP' p h x) g).Perm N := by
    refine perm_of_sub ?_ (fun x hx => by obtain ⟨y, hy, rfl⟩ := List.mem_map.1 hx; exact hmap y hy) (by simp)
    unfold List.Nodup
    rw [List.pairwise_map]
    refine List.Pairwise.imp_of_mem ?_ hNn
    intro a b ha hb hab e
    exact hab (hinj a ha b hb e)
  have hpr : ∀ K : List (List Nat), (∀ x ∈ K, Pol p x) → Cg p g (pw (ev p h) K.length * ev p (prodL p K)) (ev p (prodL p (K.map fun x => remP p (prodP' p h x) g))) := by
    intro K hK
    induction K with
    | nil => rw [List.length_nil, pw_zero, Px.one_mul]; exact Cg.refl _
    | cons x K ih =>
      have hx := hK x (by simp)
      have hKp : ∀ y ∈ K, Pol p y := fun y hy => hK y (by simp [hy])
      have D := div_is hP (pol_prod hP hh hx) hg.pol (by omega)
      rw [List.map_cons, ev_prodL_cons, ev_prodL_cons, List.length_cons, pw_succ]
      have c := Cg.mul hP (((IsP.ev hh).pw hP K.length).mul hP (IsP.ev (prodL_pol hP hKp))) (IsP.ev D.rpol) (hmul x hx) (ih hKp)
      rwa [show pw (ev p h) K.length * ev p h * (ev p x * ev p (prodL p K)) = ev p h * ev p x * (pw (ev p h) K.length * ev p (prodL p K)) by ac_rfl]
  have hNp : ∀ x ∈ N, Pol p x := fun x hx => ((hmem x).1 hx).1
  have c := hpr N hNp
  rw [ev_prodL_perm hperm, hNl, hd] at c
  unfold Cg at c ⊢
  have e : pw (ev p h) (p ^ (g.length - 1) - 1) * ev p (prodL p N) - ev p (prodL p N) = (pw (ev p h) (p ^ (g.length - 1) - 1) - 1) * ev p (prodL p N) := by rw [Px.sub_mul, Px.one_mul]
  rw [e] at c
  rcases hg.primeX hP (((IsP.ev hh).pw hP _).sub hp (IsP.one hP)) (IsP.ev (prodL_pol hP hNp)) c with h3 | h3
  · exact h3
  · obtain ⟨x, hx, h4⟩ := hg.dv_prodL hP hNp (dx_iff.1 h3)
    exact absurd h4 (hdvn x hx)

theorem fermat (hP : M.Pr p) {g h : List Nat} (hg : Irr p g) (hh : Pol p h) : Cg p g (pw (ev p h) (p ^ (g.length - 1))) (ev p h) := by
  have hp : 0 < p := by have := hP.1; omega
  have hpos : 0 < p ^ (g.length - 1) := Nat.pow_pos hp
  obtain ⟨m, hm⟩ : ∃ m, p ^ (g.length - 1) = m + 1 := ⟨p ^ (g.length - 1) - 1, by omega⟩
  by_cases hd : Dv p g h
  · have h1 := dx_iff.2 hd
    have h2 : DX p g (pw (ev p h) (p ^ (g.length - 1))) := by rw [hm, pw_succ]; exact DX.mul hP ((IsP.ev hh).pw hP m) h1
    exact h2.sub hp h1
  · have c := fermat_ne hP hg hh hd
    rw [hm, Nat.add_sub_cancel] at c
    rw [hm, pw_succ]
    have := Cg.mul hP (IsP.ev hh) (IsP.one hP) c (Cg.refl (ev p h))
    rwa [Px.one_mul] at this

/-! ### How many roots -/
def hX (u : Px p) : List (Px p) → Px p
  | [] => 0
  | c :: C => c + u * hX u C
def qX (a : Px p) : List (Px p) → List (Px p)
  | [] => []
  | [_] => []
  | _ :: c' :: C => hX a (c' :: C) :: qX a (c' :: C)
theorem hX_isP (hP : M.Pr p) {u : Px p} (hu : IsP p u) : ∀ {C : List (Px p)}, (∀ c ∈ C, IsP p c) → IsP p (hX u C)
  | [], _ => IsP.zero
  | c :: C, h => (h c (by simp)).add (by have := hP.1; omega) (hu.mul hP (hX_isP hP hu fun x hx => h x (by simp [hx])))
theorem qX_isP (hP : M.Pr p) {a : Px p} (ha : IsP p a) : ∀ {C : List (Px p)}, (∀ c ∈ C, IsP p c) → ∀ c ∈ qX a C, IsP p c
  | [], _, c, hc => by simp [qX] at hc
  | [_], _, c, hc => by simp [qX] at hc
  | x :: c' :: C, h, c, hc => by
    rw [qX] at hc
    have h1 : ∀ y ∈ c' :: C, IsP p y := fun y hy => h y (by simp only [List.mem_cons] at hy ⊢; exact .inr hy)
    rcases List.mem_cons.1 hc with rfl | hc
    · exact hX_isP hP ha h1
    · exact qX_isP hP ha h1 c hc
theorem qX_len (a : Px p) : ∀ C : List (Px p), (qX a C).length = C.length - 1
  | [] => rfl
  | [_] => rfl
  | x :: c' :: C => by rw [qX, List.length_cons, qX_len a (c' :: C)]; simp
theorem qX_last (a : Px p) : ∀ C : List (Px p), 2 ≤ C.length → (qX a C).getLast? = C.getLast?
  | [], h => by simp at h
  | [_], h => by simp at h
  | [x, c'], _ => by simp [qX, hX, Px.mul_zero, Px.add_zero]
  | x :: c' :: c2 :: C, _ => by
    have ih := qX_last a (c' :: c2 :: C) (by simp)
    rw [qX, List.getLast?_cons_cons, ← ih, qX, List.getLast?_cons_cons]
theorem hX_qX (a u : Px p) : ∀ C : List (Px p), hX u C - hX a C = (u - a) * hX u (qX a C)
  | [] => by rw [hX, hX, qX, hX, Px.sub_self, Px.mul_zero]
  | [c] => by rw [hX, hX, hX, hX, qX, hX, Px.mul_zero, Px.mul_zero, Px.sub_self, Px.mul_zero]
  | c :: c' :: C => by
    have ih := hX_qX a u (c' :: C)
    have e1 : hX u (c' :: C) = hX a (c' :: C) + (u - a) * hX u (qX a (c' :: C)) := by rw [← ih, Px.add_comm, sub_add]
    obtain ⟨A, hA⟩ : ∃ A, A = hX a (c' :: C) := ⟨_, rfl⟩
    obtain ⟨B, hB⟩ : ∃ B, B = hX u (qX a (c' :: C)) := ⟨_, rfl⟩
    have e2 : hX u (c :: c' :: C) = c + u * hX u (c' :: C) := rfl
    have e3 : hX a (c :: c' :: C) = c + a * hX a (c' :: C) := rfl
    have e4 : hX u (qX a (c :: c' :: C)) = hX a (c' :: C) + u * hX u (qX a (c' :: C)) := rfl
    rw [e2, e3, e4, e1, ← hA, ← hB, add_sub_add, Px.sub_self, Px.zero_add]
    simp only [Px.sub_def, Px.mul_add, Px.add_mul, Px.neg_mul, Px.mul_neg]
    have e5 : u * A + (u * (u * B) + -(u * (a * B))) + -(a * A) = u * A + -(a * A) + (u * (u * B) + -(u * (a * B))) := by ac_rfl
    have e6 : a * (u * B) = u * (a * B) := by ac_rfl
    rw [e5, e6]

theorem root_count (hP : M.Pr p) {g : List Nat} (hg : Irr p g) : ∀ (n : Nat) (C : List (Px p)), C.length = n + 1 → C.getLast? = some 1 → (∀ c ∈ C, IsP p c) → ∀ R : List (List Nat), (∀ r ∈ R, Pol p r) → R.Pairwise (fun a b => ¬ Cg p g (ev p a) (ev p b)) → (∀ r ∈ R, DX p g (hX (ev p r) C)) → R.length ≤ n
  | _, _, _, _, _, [], _, _, _ => by simp
  | 0, C, hl, hlast, hC, r :: R, hR, hpw, hz => by
    exfalso
    match C, hl with
    | [c], _ =>
      simp at hlast
      have := hz r (by simp)
      rw [hlast, hX, hX, Px.mul_zero, Px.add_zero] at this
      exact hg.notOne hP this
  | n + 1, C, hl, hlast, hC, r :: R, hR, hpw, hz => by
    have hp : 0 < p := by have := hP.1; omega
    have hr := hR r (by simp)
    have hpw1 := List.pairwise_cons.1 hpw
    have ih := root_count hP hg n (qX (ev p r) C) (by rw [qX_len, hl]; rfl) (by rw [qX_last _ _ (by omega)]; exact hlast) (qX_isP hP (IsP.ev hr) hC) R (fun x hx => hR x (by simp [hx])) hpw1.2 fun s hs => by
      have h1 := (hz s (by simp [hs])).sub hp (hz r (by simp))
      rw [hX_qX] at h1
      have hsp := hR s (by simp [hs])
      rcases hg.primeX hP ((IsP.ev hsp).sub hp (IsP.ev hr)) (hX_isP hP (IsP.ev hsp) (qX_isP hP (IsP.ev hr) hC)) h1 with h2 | h2
      · exact absurd (Cg.symm hp h2) (hpw1.1 s hs)
      · exact h2
    simp; omega

theorem hX_rep (u : Px p) : ∀ k, hX u (List.replicate k 0 ++ [1]) = pw u k
  | 0 => by show (1 : Px p) + u * 0 = 1; rw [Px.mul_zero, Px.add_zero]
  | k + 1 => by
    rw [List.replicate_succ, List.cons_append]
    show (0 : Px p) + u * hX u (List.replicate k 0 ++ [1]) = pw u (k + 1)
    rw [hX_rep u k, Px.zero_add, pw_succ, Px.mul_comm]

theorem frob_iter (hP : M.Pr p) (u : Px p) (h : List Nat) : ∀ m, pw (hor u h) (p ^ m) = hor (pw u (p ^ m)) h
  | 0 => by rw [Nat.pow_zero, pw_one, pw_one]
  | m + 1 => by rw [Nat.pow_succ, ← pw_pw, frob_iter hP u h m, frob_hor hP, pw_pw]
theorem hor_isP (hP : M.Pr p) {u : Px p} (hu : IsP p u) : ∀ h : List Nat, IsP p (hor u h)
  | [] => IsP.zero
  | c :: h => (IsP.const (by have := hP.1; omega) c).add (by have := hP.1; omega) (hu.mul hP (hor_isP hP hu h))
theorem hor_cg (hP : M.Pr p) {g : List Nat} {u v : Px p} (hu : IsP p u) (hv : IsP p v) (c : Cg p g u v) : ∀ h : List Nat, Cg p g (hor u h) (hor v h)
  | [] => Cg.refl _
  | a :: h => (Cg.refl _).add (by have := hP.1; omega) (Cg.mul hP (hor_isP hP hu h) hv c (hor_cg hP hu hv c h))
theorem isP_x (hP : M.Pr p) : IsP p (xX p) := by rw [← ev_xx]; exact IsP.ev (pol_xx hP)

/-- If x is its own p^m-th power, the degree is at most m. -/
theorem deg_le (hP : M.Pr p) {g : List Nat} (hg : Irr p g) {m : Nat} (hm : 1 ≤ m) (c : Cg p g (pw (xX p) (p ^ m)) (xX p)) : g.length - 1 ≤ m := by
  have hp2 := hP.1
  have hp : 0 < p := by omega
  have h2 := hg.two
  have hN : 2 ≤ p ^ m := Nat.le_trans hp2 (by have := Nat.pow_le_pow_right hp hm; rwa [Nat.pow_one] at this)
  obtain ⟨K, hK⟩ : ∃ K, p ^ m = K + 2 := ⟨p ^ m - 2, by omega⟩
  have hx := isP_x hP
  have hall : ∀ h : List Nat, Pol p h → Cg p g (pw (ev p h) (p ^ m)) (ev p h) := fun h _ => by
    rw [← hor_x h, frob_iter hP]
    exact hor_cg hP (hx.pw hP _) hx c h
  have hmem : ∀ r, r ∈ resid p (g.length - 1) → Pol p r ∧ r.length < g.length := fun r hr => by
    have := (mem_resid hp _ r).1 hr; exact ⟨this.1, by omega⟩
  have h := root_count hP hg (p ^ m) ((0 : Px p) :: (-1 : Px p) :: (List.replicate K 0 ++ [1])) (by simp [hK]) (by simp [List.getLast?_cons]) (fun y hy => ?_) (resid p (g.length - 1)) (fun r hr => (hmem r hr).1) ?_ fun r hr => ?_
  · rw [resid_len] at h
    exact (Nat.pow_le_pow_iff_right (by omega)).1 h
  · simp only [List.mem_cons, List.mem_append, List.mem_replicate, List.not_mem_nil, or_false] at hy
    rcases hy with rfl | rfl | ⟨_, rfl⟩ | rfl
    · exact IsP.zero
    · exact (IsP.one hP).neg hp
    · exact IsP.zero
    · exact IsP.one hP
  · refine List.Pairwise.imp_of_mem ?_ (resid_nodup (p := p) (g.length - 1))
    intro a b ha hb hab hc
    have h1 := hmem a ha
    have h3 := hmem b hb
    exact hab (low_cg hP h1.1 h3.1 hg.pol h1.2 h3.2 hc)
  · have e : hX (ev p r) ((0 : Px p) :: (-1 : Px p) :: (List.replicate K 0 ++ [1])) = pw (ev p r) (p ^ m) - ev p r := by
      show (0 : Px p) + ev p r * (-1 + ev p r * hX (ev p r) (List.replicate K 0 ++ [1])) = _
      rw [hX_rep, Px.zero_add, Px.mul_add, Px.mul_neg, Px.mul_one, hK, pw_succ, pw_succ, Px.sub_def, Px.add_comm]
      congr 1; ac_rfl
    rw [e]
    exact hall r (hmem r hr).1

/-- x is its own p^(d k)-th power. -/
theorem x_iter (hP : M.Pr p) {g : List Nat} {d : Nat} (c : Cg p g (pw (xX p) (p ^ d)) (xX p)) : ∀ k, Cg p g (pw (xX p) (p ^ (d * k))) (xX p)
  | 0 => by rw [Nat.mul_zero, Nat.pow_zero, pw_one]; exact Cg.refl _
  | k + 1 => by
    have hp : 0 < p := by have := hP.1; omega
    rw [Nat.mul_succ, Nat.pow_add, ← pw_pw]
    have hx := isP_x hP
    exact (Cg.pw hP (hx.pw hP _) hx (x_iter hP c k) _).trans hp c

/-! ### Rabin's test -/
def yR (p : Nat) (f : List Nat) : Nat → List Nat
  | 0 => [0, 1]
  | k + 1 => raiseLoop p f p [1] (remP p (yR p f k) f) p
theorem yR_is (hP : M.Pr p) {f : List Nat} (hf : Pol p f) (h3 : 3 ≤ f.length) : ∀ k, Pol p (yR p f k) ∧ (yR p f k).length < f.length ∧ Cg p f (ev p (yR p f k)) (pw (xX p) (p ^ k))
  | 0 => ⟨pol_xx hP, by show 2 < _; omega, by rw [Nat.pow_zero, pw_one]; exact Cg.of_eq ev_xx⟩
  | k + 1 => by
    have hp : 0 < p := by have := hP.1; omega
    obtain ⟨i1, i2, i3⟩ := yR_is hP hf h3 k
    have D := div_is hP i1 hf (by omega)
    have h := raise_cg hP hf (by omega) p [1] (remP p (yR p f k) f) p (Nat.le_refl _) (pol_one hP) D.rpol
    refine ⟨h.1, raise_len hP hf (by omega) p [1] _ p (pol_one hP) D.rpol (by simp; omega), ?_⟩
    have h1 := h.2
    rw [ev_one, Px.one_mul] at h1
    refine h1.trans hp ?_
    rw [Nat.pow_succ, ← pw_pw]
    have c := ((rem_cg hP i1 hf (by omega)).symm hp).trans hp i3
    exact c.pw hP (IsP.ev D.rpol) ((isP_x hP).pw hP _) p

structure Rab (p : Nat) (f : List Nat) (n : Nat) : Prop where
  last : yR p f n = [0, 1]
  gcds : ∀ q, M.Pr q → q ∣ n → (gcdP p f (difP p (yR p f (n / q)) [0, 1])).length ≤ 1

theorem rab_gcd (hP : M.Pr p) {f g : List Nat} (hf : Pol p f) (h3 : 3 ≤ f.length) (hg : Pol p g) (hgf : Dv p g f) (h2 : 2 ≤ g.length) {m : Nat} (c : Cg p g (pw (xX p) (p ^ m)) (xX p)) : 1 < (gcdP p f (difP p (yR p f m) [0, 1])).length := by
  have hp : 0 < p := by have := hP.1; omega
  obtain ⟨i1, i2, i3⟩ := yR_is hP hf h3 m
  have hdp := pol_dif hp (yR p f m) [0, 1]
  have G := gcdP_is hP hf hdp
  have h1 : Dv p g (difP p (yR p f m) [0, 1]) := by
    rw [← dx_iff, ev_dif hp _ (pol_xx hP).red, ev_xx]
    have i4 : Cg p g (ev p (yR p f m)) (pw (xX p) (p ^ m)) := DX.trans hP hgf i3
    exact i4.trans hp c
  have h4 := G.greatest hP hgf h1
  have h0 : (gcdP p f (difP p (yR p f m) [0, 1])).length ≠ 0 := fun h => by
    have := (G.zero.1 (List.eq_nil_of_length_eq_zero h)).1
    rw [this] at h3; simp at h3
  have := (h4.len hP hg G.pol h0).1
  omega

theorem rab_iff (hP : M.Pr p) {f : List Nat} (hf : Pol p f) {n : Nat} (hn : f.length = n + 1) (h2 : 2 ≤ n) : Rab p f n ↔ Irr p f := by
  have hp2 := hP.1
  have hp : 0 < p := by omega
  have h3 : 3 ≤ f.length := by omega
  have hx := isP_x hP
  constructor
  · intro R
    obtain ⟨g, hg, hgf⟩ := exists_irr hP f.length (Nat.le_refl _) hf (by omega)
    obtain ⟨d, hd⟩ : ∃ d, g.length = d + 1 := ⟨g.length - 1, by have := hg.irr.two; omega⟩
    have hd1 : 1 ≤ d := by have := hg.irr.two; omega
    have cn : Cg p g (pw (xX p) (p ^ n)) (xX p) := by
      have i3 := (yR_is hP hf h3 n).2.2
      rw [R.last, ev_xx] at i3
      exact Cg.symm hp (DX.trans hP hgf i3)
    have cd : Cg p g (pw (xX p) (p ^ d)) (xX p) := by
      have := fermat hP hg.irr (pol_xx hP)
      rwa [ev_xx, hd, Nat.add_sub_cancel] at this
    have hdn : d ∣ n := by
      refine Nat.dvd_of_mod_eq_zero (Classical.byContradiction fun h0 => ?_)
      have hlt := Nat.mod_lt n (show 0 < d by omega)
      have c1 : Cg p g (pw (xX p) (p ^ (n % d))) (xX p) := by
        have e : n = d * (n / d) + n % d := (Nat.div_add_mod n d).symm
        have c2 := cn
        rw [e, Nat.pow_add, ← pw_pw] at c2
        exact (Cg.pw hP hx (hx.pw hP _) (Cg.symm hp (x_iter hP cd (n / d))) _).trans hp c2
      have := deg_le hP hg.irr (by omega) c1
      omega
    obtain ⟨e, he⟩ := hdn
    by_cases he1 : e = 1
    · subst he1
      have hlen : g.length = f.length := by omega
      refine ⟨hf, by omega, fun k hk hkd => ?_⟩
      have := hg.irr.dv k hk (hkd.trans hP (Dv.back hP hg.irr.pol hf (by omega) hlen hgf))
      omega
    · exfalso
      have he0 : e ≠ 0 := fun h => by subst h; omega
      obtain ⟨q, hq, hqe⟩ := M.exists_prime e (by omega)
      obtain ⟨k, rfl⟩ := hqe
      have hq2 := hq.1
      have hnq : n / q = d * k := by
        rw [he, show d * (q * k) = d * k * q by ac_rfl]; exact Nat.mul_div_cancel _ (by omega)
      have h4 := R.gcds q hq ⟨d * k, by rw [he]; ac_rfl⟩
      have h5 := rab_gcd hP hf h3 hg.irr.pol hgf (by omega) (m := n / q) (by rw [hnq]; exact x_iter hP cd k)
      omega
  · intro I
    refine ⟨?_, fun q hq hqn => ?_⟩
    · obtain ⟨i1, i2, i3⟩ := yR_is hP hf h3 n
      have c := fermat hP I (pol_xx hP)
      rw [ev_xx, hn, Nat.add_sub_cancel] at c
      refine low_cg hP i1 (pol_xx hP) hf i2 (by show 2 < _; omega) ?_
      rw [ev_xx]; exact i3.trans hp c
    · refine Classical.byContradiction fun hgt => ?_
      have hdp := pol_dif hp (yR p f (n / q)) [0, 1]
      have G := gcdP_is hP hf hdp
      have h4 := (I.dv _ G.pol G.left).resolve_left (by omega)
      have h5 : Dv p f (difP p (yR p f (n / q)) [0, 1]) := (Dv.back hP G.pol hf (by omega) h4 G.left).trans hP G.right
      rw [← dx_iff, ev_dif hp _ (pol_xx hP).red, ev_xx] at h5
      have c : Cg p f (pw (xX p) (p ^ (n / q))) (xX p) := ((yR_is hP hf h3 (n / q)).2.2.symm hp).trans hp h5
      have hq2 := hq.1
      have hnq1 : 1 ≤ n / q := Nat.div_pos (Nat.le_of_dvd (by omega) hqn) (by omega)
      have h6 := deg_le hP I hnq1 c
      have h7 : n / q ≤ n / 2 := Nat.div_le_div_left hq2 (by omega)
      omega

end Q
end Go.Proofs.YtgcjdojhfimceaaGreat

namespace Go.Proofs.YtgcjdojhfimceaaGreat
namespace Q

/-- What is left of p^n after d rounds. -/
def leftAt (p k n d : Nat) : Int := (List.range d).foldl (fun left d => if n % (d + 1) = 0 then left - ((d + 1 : Nat) : Int) * countP p k (d + 1) else left) ((p ^ n : Nat) : Int)

theorem leftAt_zero (p k n : Nat) : leftAt p k n 0 = ((p ^ n : Nat) : Int) := rfl
theorem leftAt_succ (p k n d : Nat) : leftAt p k n (d + 1) = if n % (d + 1) = 0 then leftAt p k n d - ((d + 1 : Nat) : Int) * countP p k (d + 1) else leftAt p k n d := by
  unfold leftAt; rw [List.range_succ, List.foldl_append]; rfl
theorem countP_succ (p k n : Nat) : countP p (k + 1) n = leftAt p k n (n - 1) / (n : Int) := rfl

def geo (p : Nat) : Nat → Nat
  | 0 => 0
  | d + 1 => geo p d + p ^ (d + 1)

theorem geo_le {p : Nat} (hp : 2 ≤ p) : ∀ d, geo p d + 2 ≤ 2 * p ^ d
  | 0 => by simp [geo]
  | d + 1 => by
    have ih := geo_le hp d
    have h1 : p ^ d * 2 ≤ p ^ d * p := Nat.mul_le_mul_left _ hp
    rw [geo, Nat.pow_succ]
    omega

theorem geo_lt {p n d : Nat} (hp : 2 ≤ p) (h : d < n) : geo p d < p ^ n := by
  have h1 := geo_le hp d
  have h2 : p ^ (d + 1) ≤ p ^ n := Nat.pow_le_pow_right (by omega) h
  have h3 : p ^ d * 2 ≤ p ^ d * p := Nat.mul_le_mul_left _ hp
  rw [Nat.pow_succ] at h2
  omega

theorem count_bd {p : Nat} (hp : 2 ≤ p) : ∀ (k n : Nat), 1 ≤ n → 0 ≤ countP p k n ∧ (n : Int) * countP p k n ≤ ((p ^ n : Nat) : Int)
  | 0, n, _ => ⟨by simp [countP], by simp only [countP, Int.mul_zero]; exact Int.natCast_nonneg _⟩
  | k + 1, n, h => by
    have H : ∀ d, ((p ^ n : Nat) : Int) - (geo p d : Nat) ≤ leftAt p k n d ∧ leftAt p k n d ≤ ((p ^ n : Nat) : Int) := by
      intro d
      induction d with
      | zero => simp [geo, leftAt_zero]
      | succ d ih =>
        have ⟨c1, c2⟩ := count_bd hp k (d + 1) (by omega)
        have c3 : 0 ≤ ((d + 1 : Nat) : Int) * countP p k (d + 1) := Int.mul_nonneg (by omega) c1
        rw [leftAt_succ, geo]
        split
        · omega
        · omega
    have h1 := H (n - 1)
    have h2 := geo_lt hp (show n - 1 < n by omega)
    rw [countP_succ]
    have h0 : (0 : Int) ≤ leftAt p k n (n - 1) := by omega
    refine ⟨Int.ediv_nonneg h0 (by omega), Int.le_trans (Int.mul_ediv_self_le (by omega)) h1.2⟩

theorem left_bd {p : Nat} (hp : 2 ≤ p) (k n d : Nat) (h : d < n) : 0 ≤ leftAt p k n d ∧ leftAt p k n d ≤ ((p ^ n : Nat) : Int) := by
  have H : ∀ d, ((p ^ n : Nat) : Int) - (geo p d : Nat) ≤ leftAt p k n d ∧ leftAt p k n d ≤ ((p ^ n : Nat) : Int) := by
    intro d
    induction d with
    | zero => simp [geo, leftAt_zero]
    | succ d ih =>
      have ⟨c1, c2⟩ := count_bd hp k (d + 1) (by omega)
      have c3 : 0 ≤ ((d + 1 : Nat) : Int) * countP p k (d + 1) := Int.mul_nonneg (by omega) c1
      rw [leftAt_succ, geo]
      split
      · omega
      · omega
  have h1 := H d
  have h2 := geo_lt hp h
  omega

/-- The Moebius function, off a factorization. -/
def mobL : List (Nat × Nat) → Int
  | [] => 1
  | x :: l => if 1 < x.2 then 0 else - mobL l

def facOf (n : Nat) : List (Nat × Nat) := ([2, 3, 5, 7, 11, 13, 17, 19, 23, 29, 31].filterMap fun q => let e := (List.range 6).filter (fun e => n % q ^ (e + 1) == 0); if e.length = 0 then none else some (q, e.length))

theorem pr_small {n : Nat} (h2 : 2 ≤ n) (h : ∀ d, d < n → 2 ≤ d → n % d ≠ 0) : M.Pr n := by
  refine ⟨h2, fun d hd => ?_⟩
  have hd0 : 0 < d := Nat.pos_of_dvd_of_pos hd (by omega)
  have hle := Nat.le_of_dvd (by omega) hd
  by_cases h1 : d = 1
  · exact .inl h1
  · by_cases hn : d = n
    · exact .inr hn
    · exact absurd (Nat.mod_eq_zero_of_dvd hd) (h d (by omega) (by omega))

def goodFac : Nat → List (Nat × Nat) → Bool
  | _, [] => true
  | lo, x :: l => decide (lo < x.1) && (decide (2 ≤ x.1) && ((List.range x.1).all fun d => decide (d < 2) || decide (x.1 % d ≠ 0))) && decide (1 ≤ x.2) && goodFac x.1 l

theorem goodFac_is : ∀ (l : List (Nat × Nat)) (lo : Nat), goodFac lo l = true → M.FacFrom lo l
  | [], _, _ => trivial
  | x :: l, lo, h => by
    simp only [goodFac, Bool.and_eq_true, decide_eq_true_eq, List.all_eq_true, List.mem_range, Bool.or_eq_true] at h
    exact ⟨h.1.1.1, pr_small h.1.1.2.1 (fun d h1 h2 => (h.1.1.2.2 d h1).resolve_left (by omega)), h.1.2, goodFac_is l _ h.2⟩

theorem facOf_is {n : Nat} (h1 : 1 ≤ n) (h2 : n ≤ 32) : M.IsFac n (facOf n) := by
  have H : ∀ n, n < 33 → 1 ≤ n → goodFac 1 (facOf n) = true ∧ M.prodP (facOf n) = n := by decide +kernel
  have ⟨a, b⟩ := H n (by omega) h1
  exact ⟨goodFac_is _ _ a, b⟩

/-- The reference's sum after j rounds: d runs from n down. -/
def sumAt (p n : Nat) : Nat → Int
  | 0 => 0
  | j + 1 => if n % (n - j) = 0 then sumAt p n j + mobL (facOf (n / (n - j))) * ((p ^ (n - j) : Nat) : Int) else sumAt p n j

theorem mobL_bd : ∀ l, -1 ≤ mobL l ∧ mobL l ≤ 1
  | [] => by simp [mobL]
  | x :: l => by have := mobL_bd l; rw [mobL]; split <;> omega

theorem sumAt_bd {p n : Nat} : ∀ j, j ≤ n → -((geo p n : Nat) : Int) + ((geo p (n - j) : Nat) : Int) ≤ sumAt p n j ∧ sumAt p n j ≤ ((geo p n : Nat) : Int) - ((geo p (n - j) : Nat) : Int)
  | 0, _ => by simp [sumAt]; omega
  | j + 1, h => by
    have ih := sumAt_bd (p := p) (n := n) j (by omega)
    have e : geo p (n - j) = geo p (n - (j + 1)) + p ^ (n - j) := by
      obtain ⟨d, hd⟩ : ∃ d, n - j = d + 1 := ⟨n - j - 1, by omega⟩
      rw [hd, show n - (j + 1) = d by omega, geo]
    rw [sumAt]
    split
    · have hm := mobL_bd (facOf (n / (n - j)))
      have hx : -((p ^ (n - j) : Nat) : Int) ≤ mobL (facOf (n / (n - j))) * ((p ^ (n - j) : Nat) : Int) ∧ mobL (facOf (n / (n - j))) * ((p ^ (n - j) : Nat) : Int) ≤ ((p ^ (n - j) : Nat) : Int) := by
        generalize p ^ (n - j) = P
        have h0 : (0 : Int) ≤ (P : Int) := Int.natCast_nonneg _
        rcases (by omega : mobL (facOf (n / (n - j))) = -1 ∨ mobL (facOf (n / (n - j))) = 0 ∨ mobL (facOf (n / (n - j))) = 1) with h1 | h1 | h1 <;> rw [h1] <;> constructor <;> omega
      rw [e] at ih
      omega
    · rw [e] at ih; omega

theorem sumAt_abs {p n : Nat} (hp : 2 ≤ p) (h : p ^ n ≤ 2305843009213693952) (j : Nat) (hj : j ≤ n) : -4611686018427387904 ≤ sumAt p n j ∧ sumAt p n j ≤ 4611686018427387904 := by
  have h1 := sumAt_bd (p := p) j hj
  have h2 := geo_le hp n
  omega

def cntOk (p n : Nat) : Bool :=
  if p ^ n ≤ 2305843009213693952 then decide (0 ≤ sumAt p n n) &&
    if p ^ n ≤ 576460752303423488 then decide (countP p n n = sumAt p n n / (n : Int))
    else decide ((9007199254740992 : Int) < sumAt p n n / (n : Int))
  else true

def cntAll (n : Nat) : Bool := (List.range 1020).all fun p => cntOk (p + 2) n

set_option maxRecDepth 100000 in
theorem cntAll_is : ∀ n, n < 32 → cntAll (n + 1) = true := by decide +kernel

theorem cnt_is {p n : Nat} (hp : 2 ≤ p) (hp2 : p ≤ 1021) (h1 : 1 ≤ n) (h2 : n ≤ 32) : cntOk p n = true := by
  have h3 := cntAll_is (n - 1) (by omega)
  rw [show n - 1 + 1 = n by omega] at h3
  have h4 := List.all_eq_true.1 h3 (p - 2) (List.mem_range.2 (by omega))
  rw [show p - 2 + 2 = p by omega] at h4
  exact h4

end Q
end Go.Proofs.YtgcjdojhfimceaaGreat
