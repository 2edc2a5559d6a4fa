/- Walks and plain mathematics: Rfc, Rfd, RefG, RefK. -/
import Derived.Test.YtbehihanhfmmhaaGreatG12
import Derived.Test.YtbehihanhfmmhaaGreatG11
import Derived.Test.YtbehihanhfmmhaaGreatG10
import Derived.Deep.RegionHeld3
import Derived.StillTailTactics
namespace Go.Proofs.YtbehihanhfmmhaaGreat
namespace Q
variable {p : Nat}

/-- The reference's insert. -/
def insR (x : List Nat × Nat) : List (List Nat × Nat) → List (List Nat × Nat)
  | [] => [x]
  | y :: L => if ordP y.1 x.1 < 0 then y :: insR x L else x :: y :: L
/-- Its Factor, in at most n rounds. -/
def rFac (p : Nat) : Nat → List Nat → Option (List (List Nat × Nat))
  | 0, _ => none
  | n + 1, f =>
    if f.length ≤ 1 then some []
    else if (deriv p f).length = 0 then match rFac p n (rootP p f) with
      | none => none
      | some l => some (l.map fun x => (x.1, p * x.2))
    else match takeAll p 1 (rSplit p (divP p f (gcdP p f (deriv p f))).1) f with
      | none => none
      | some (l, f') => match rFac p n f' with
        | none => none
        | some l' => some ((l ++ l').foldl (fun out x => insR x out) [])

/-! ### The order -/
theorem ordLt_trans : ∀ f g h : List Nat, ordP f g < 0 → ordP g h < 0 → ordP f h < 0
  | [], [], _, h1, _ => by simp [ordP] at h1
  | [], _ :: _, [], _, h2 => by simp [ordP] at h2
  | [], _ :: _, _ :: _, _, _ => by simp [ordP]
  | _ :: _, [], _, h1, _ => by simp [ordP] at h1
  | _ :: _, _ :: _, [], _, h2 => by simp [ordP] at h2
  | a :: f, b :: g, c :: h, h1, h2 => by
    rw [ordP] at h1 h2 ⊢
    have z1 := ordP_zero f g
    have z2 := ordP_zero g h
    by_cases e1 : ordP f g = 0
    · rw [if_pos e1] at h1
      have := z1 e1
      subst this
      by_cases e2 : ordP f h = 0
      · rw [if_pos e2] at h2 ⊢
        have a1 : a < b := by
          refine Classical.byContradiction fun h => ?_
          rw [if_neg h] at h1
          split at h1 <;> omega
        have a2 : b < c := by
          refine Classical.byContradiction fun h => ?_
          rw [if_neg h] at h2
          split at h2 <;> omega
        rw [if_pos (by omega)]; omega
      · rw [if_neg e2] at h2 ⊢; exact h2
    · rw [if_neg e1] at h1
      by_cases e2 : ordP g h = 0
      · have := z2 e2
        subst this
        rw [if_neg e1]; exact h1
      · rw [if_neg e2] at h2
        have := ordLt_trans f g h h1 h2
        rw [if_neg (by omega)]; exact this

def Asc (L : List (List Nat × Nat)) : Prop := L.Pairwise fun a b => ordP a.1 b.1 < 0

theorem insR_perm (x : List Nat × Nat) : ∀ L, (insR x L).Perm (x :: L)
  | [] => .refl _
  | y :: L => by
    rw [insR]
    split
    · exact ((insR_perm x L).cons y).trans (List.Perm.swap x y L)
    · exact .refl _
theorem insR_asc (x : List Nat × Nat) : ∀ L, Asc L → (∀ y ∈ L, y.1 ≠ x.1) → Asc (insR x L)
  | [], _, _ => List.pairwise_singleton _ _
  | y :: L, h, hne => by
    have h1 := List.pairwise_cons.1 h
    rw [insR]
    split
    · next hy =>
      refine List.pairwise_cons.2 ⟨fun z hz => ?_, insR_asc x L h1.2 fun z hz => hne z (by simp [hz])⟩
      rcases List.mem_cons.1 ((insR_perm x L).mem_iff.1 hz) with rfl | hz
      · exact hy
      · exact h1.1 z hz
    · next hy =>
      have hxy : ordP x.1 y.1 < 0 := by
        have h2 := ordP_swap y.1 x.1
        have h3 : ordP y.1 x.1 ≠ 0 := fun e => hne y (by simp) (ordP_zero _ _ e)
        omega
      refine List.pairwise_cons.2 ⟨fun z hz => ?_, h⟩
      rcases List.mem_cons.1 hz with rfl | hz
      · exact hxy
      · exact ordLt_trans _ _ _ hxy (h1.1 z hz)

/-- Where insert puts it. -/
theorem insR_at (x : List Nat × Nat) : ∀ (L : List (List Nat × Nat)) (k : Nat), k ≤ L.length → (∀ i (h : i < L.length), i < k → ordP (L[i]).1 x.1 < 0) → (∀ h : k < L.length, ¬ ordP (L[k]).1 x.1 < 0) → insR x L = L.take k ++ x :: L.drop k
  | [], k, hk, _, _ => by
    have : k = 0 := by simpa using hk
    subst this; rfl
  | y :: L, 0, _, _, h2 => by
    have h3 : ¬ ordP y.1 x.1 < 0 := h2 (by simp)
    rw [insR, if_neg h3]; rfl
  | y :: L, k + 1, hk, h1, h2 => by
    have h3 : ordP y.1 x.1 < 0 := h1 0 (by simp) (by omega)
    rw [insR, if_pos h3, insR_at x L k (by simpa using hk) (fun i hi hik => h1 (i + 1) (by simpa using hi) (by omega)) (fun h => h2 (by simpa using h))]
    rfl

theorem insAll (K : List (List Nat × Nat)) : ∀ L, Asc L → ((L ++ K).map fun x => x.1).Nodup → Asc (K.foldl (fun out x => insR x out) L) ∧ (K.foldl (fun out x => insR x out) L).Perm (L ++ K) := by
  induction K with
  | nil => exact fun L h _ => ⟨h, by simp⟩
  | cons x K ih =>
    intro L h hn
    have hp1 : (insR x L ++ K).Perm (L ++ x :: K) := ((insR_perm x L).append_right K).trans (List.perm_middle.symm)
    have hne : ∀ y ∈ L, y.1 ≠ x.1 := fun y hy => by
      rw [List.map_append] at hn
      exact (List.nodup_append.1 hn).2.2 _ (List.mem_map.2 ⟨y, hy, rfl⟩) _ (by simp)
    obtain ⟨i1, i2⟩ := ih (insR x L) (insR_asc x L h hne) ((hp1.map _).nodup_iff.2 hn)
    exact ⟨i1, i2.trans hp1⟩

/-! ### Factor -/
theorem rFac_is (hP : M.Pr p) : ∀ (n : Nat) {f : List Nat} {l : List (List Nat)}, Pol p f → Mon f → f.length ≤ n → (∀ x ∈ l, MIrr p x) → ev p f = ev p (prodL p l) → ∃ L, rFac p n f = some L ∧ FacOk 1 l L ∧ Asc L
  | 0, f, l, hf, mf, hn, _, _ => by have := mf.1; omega
  | n + 1, f, l, hf, mf, hn, hl, e => by
    have hp2 := hP.1
    have hp : 0 < p := by omega
    have hm1 := mf.1
    rw [rFac]
    by_cases h1 : f.length ≤ 1
    · rw [if_pos h1]
      have hf1 : f = [1] := mon_len1 mf (by omega)
      have hlnil : l = [] := by
        cases l with
        | nil => rfl
        | cons g r =>
          exfalso
          have h3 : Dv p g [1] := by
            rw [← dx_iff, ← hf1, e, dx_iff]
            exact dv_prodL_mem hP (fun x hx => (hl x hx).irr.pol) (by simp)
          have := dv_one hP (hl g (by simp)).irr.pol h3
          have := (hl g (by simp)).irr.two
          omega
      subst hlnil
      exact ⟨[], rfl, ⟨by simp, by simp, by simp⟩, List.Pairwise.nil⟩
    · rw [if_neg h1]
      by_cases hd : (deriv p f).length = 0
      · rw [if_pos hd]
        obtain ⟨r1, r2, _⟩ := root_is hP hf mf.1 hd
        have rm := mon_root hP hf mf hd
        obtain ⟨k, hk, ek⟩ := exists_fac hP _ (Nat.le_refl _) r1 rm
        have hrl : (rootP p f).length ≤ n := by
          rw [rt_len]
          have h4 : (f.length - 1) / p ≤ (f.length - 1) / 2 := Nat.div_le_div_left hp2 (by omega)
          omega
        obtain ⟨L, hL, hF, hA⟩ := rFac_is hP n r1 rm hrl hk ek
        rw [hL]
        refine ⟨_, rfl, FacOk.root hP hl hk (by rw [← e, r2, ek]) ⟨?_, fun x hx => ?_, fun g hg => ?_⟩, ?_⟩
        · rw [List.map_map]; exact hF.nodup
        · obtain ⟨y, hy, rfl⟩ := List.mem_map.1 hx
          obtain ⟨h2, h3⟩ := hF.exp y hy
          exact ⟨h2, by show p * y.2 = k.count y.1 * (1 * p); rw [h3, Nat.mul_one, Nat.one_mul, Nat.mul_comm]⟩
        · obtain ⟨y, hy, hye⟩ := hF.all g hg
          exact ⟨_, List.mem_map.2 ⟨y, hy, rfl⟩, hye⟩
        · unfold Asc
          rw [List.pairwise_map]; exact hA
      · rw [if_neg hd]
        obtain ⟨k, S, mS, eS, hmem⟩ := simple_is hP hf mf hl e hd
        have hpm := rSplit_perm hP S mS eS
        obtain ⟨ps, hps⟩ : ∃ ps, ps = rSplit p (divP p f (gcdP p f (deriv p f))).1 := ⟨_, rfl⟩
        rw [← hps] at hpm ⊢
        have hpn : ps.Nodup := hpm.nodup_iff.2 S.nodup
        have hpi : ∀ x ∈ ps, MIrr p x := fun x hx => S.irr x (hpm.mem_iff.1 hx)
        obtain ⟨f', t1, t2, t3, t4⟩ := takeAll_is hP 1 ps hpn hpi hl hf mf e
        rw [t1]
        simp only
        have hl' : ∀ x ∈ l.filter (fun x => !ps.contains x), MIrr p x := fun x hx => hl x (List.mem_filter.1 hx).1
        have hcl : ∀ x, x ∈ ps → x ∈ l := fun x hx => by
          have := (hmem x (hpi x hx)).1 (hpm.mem_iff.1 hx)
          exact List.count_pos_iff.1 (Nat.pos_of_ne_zero fun h0 => this ⟨0, by omega⟩)
        have hlen : f'.length ≤ n := by
          have hdv : DX p f' (ev p f) := by
            have hsplit : ev p (prodL p l) = ev p (prodL p (l.filter fun x => ps.contains x)) * ev p (prodL p (l.filter fun x => !ps.contains x)) := by
              rw [← ev_prodL_append]
              exact ev_prodL_perm (List.filter_append_perm _ l).symm
            exact ⟨_, prodL_isP hP (l := l.filter fun x => ps.contains x) (fun x hx => hl x (List.mem_filter.1 hx).1), by rw [e, hsplit, t4]⟩
          have h5 := ((dx_iff.1 hdv).len hP t2 hf mf.1).1
          refine Classical.byContradiction fun h6 => ?_
          have h7 : f'.length = f.length := by omega
          have h8 := mon_unique hP t2 hf t3 mf (dx_iff.1 hdv) (Dv.back hP t2 hf mf.1 h7 (dx_iff.1 hdv))
          have h9 : 0 < ps.length := by
            rw [hpm.length_eq]
            refine List.length_pos_iff.2 fun h => ?_
            have := S.two
            rw [h] at eS
            rw [ev_inj hp S.pol (pol_one hP) eS] at this
            simp at this
          obtain ⟨g, hg⟩ := List.length_pos_iff_exists_mem.1 h9
          have hperm := fac_perm hP hl' hl (by rw [← t4, ← e, h8])
          have := hperm.mem_iff.2 (hcl g hg)
          have := (List.mem_filter.1 this).2
          simp [hg] at this
        obtain ⟨L2, hL2, hF, _⟩ := rFac_is hP n t2 t3 hlen hl' t4
        rw [hL2]
        have hok : FacOk 1 l (ps.map (fun g => (g, l.count g * 1)) ++ L2) := by
          refine ⟨?_, fun x hx => ?_, fun g hg => ?_⟩
          · rw [List.map_append, List.map_map]
            refine List.nodup_append.2 ⟨?_, hF.nodup, fun a ha b hb hab => ?_⟩
            · exact (List.map_id ps).symm ▸ hpn
            · subst hab
              obtain ⟨g, hg, rfl⟩ := List.mem_map.1 ha
              obtain ⟨x, hx, hxe⟩ := List.mem_map.1 hb
              have h3 := (hF.exp x hx).1
              rw [hxe] at h3
              have h4 := (List.mem_filter.1 h3).2
              simp only [Function.comp_apply] at h4
              simp [hg] at h4
          · rcases List.mem_append.1 hx with h | h
            · obtain ⟨g, hg, rfl⟩ := List.mem_map.1 h
              exact ⟨hcl g hg, rfl⟩
            · obtain ⟨h3, h4⟩ := hF.exp x h
              have h5 := List.mem_filter.1 h3
              refine ⟨h5.1, ?_⟩
              rw [h4, List.count_filter (p := fun x => !ps.contains x) h5.2]
          · by_cases hgp : g ∈ ps
            · exact ⟨(g, l.count g * 1), List.mem_append.2 (.inl (List.mem_map.2 ⟨g, hgp, rfl⟩)), rfl⟩
            · obtain ⟨x, hx, hxe⟩ := hF.all g (List.mem_filter.2 ⟨hg, by simpa using hgp⟩)
              exact ⟨x, List.mem_append.2 (.inr hx), hxe⟩
        obtain ⟨i1, i2⟩ := insAll (ps.map (fun g => (g, l.count g * 1)) ++ L2) [] List.Pairwise.nil (by simpa using hok.nodup)
        exact ⟨_, rfl, hok.perm (by simpa using i2), i1⟩

/-- Two lists in order with the same factors are one. -/
theorem fac_same {l : List (List Nat)} {L K : List (List Nat × Nat)} (hL : FacOk 1 l L) (aL : Asc L) (hK : FacOk 1 l K) (aK : Asc K) : L = K := by
  have key : ∀ {A B : List (List Nat × Nat)}, FacOk 1 l A → FacOk 1 l B → ∀ x ∈ A, x ∈ B := fun {A B} hA hB x hx => by
    obtain ⟨h1, h2⟩ := hA.exp x hx
    obtain ⟨y, hy, hye⟩ := hB.all x.1 h1
    have h3 := (hB.exp y hy).2
    rw [hye, ← h2] at h3
    have : y = x := Prod.ext hye h3
    exact this ▸ hy
  have nd : ∀ {A : List (List Nat × Nat)}, FacOk 1 l A → A.Nodup := fun {A} hA => by
    have := hA.nodup
    unfold List.Nodup at this
    rw [List.pairwise_map] at this
    exact this.imp fun h e => h (by rw [e])
  have hp : L.Perm K := (List.perm_ext_iff_of_nodup (nd hL) (nd hK)).2 fun x => ⟨key hL hK x, key hK hL x⟩
  refine List.Perm.eq_of_pairwise (fun a b _ _ h1 h2 => ?_) aL aK hp
  have := ordP_swap a.1 b.1
  omega

theorem FacL.pairwise {F : List Nat} {L : List (List Nat × Nat)} {l : List (List Nat)} (h : FacL p F L l) : Asc L := by
  have key : ∀ {A : List (List Nat × Nat)}, (∀ i (h : i + 1 < A.length), ordP (A[i]'(by omega)).1 (A[i + 1]).1 < 0) → Asc A := by
    intro A
    induction A with
    | nil => exact fun _ => List.Pairwise.nil
    | cons x A ih =>
      intro h
      have hA : Asc A := ih fun i hi => h (i + 1) (by simpa using hi)
      refine List.pairwise_cons.2 ⟨fun y hy => ?_, hA⟩
      cases A with
      | nil => simp at hy
      | cons z A =>
        have h0 := h 0 (by simp)
        rcases List.mem_cons.1 hy with rfl | hy
        · exact h0
        · exact ordLt_trans _ _ _ h0 ((List.pairwise_cons.1 hA).1 y hy)
  exact key h.asc

/-- The program's factors are the reference's. -/
theorem FacL.ref (hP : M.Pr p) {F : List Nat} (hF : Pol p F) (h0 : F.length ≠ 0) {L : List (List Nat × Nat)} {l : List (List Nat)} (h : FacL p F L l) {n : Nat} (hn : F.length ≤ n) : rFac p n (monicP p F) = some L := by
  have hm := monic_is hP hF h0
  obtain ⟨c, hc, hcp, hc0, ec⟩ := lastC hP hF h0
  have e : ev p (monicP p F) = ev p (prodL p l) := by
    have e1 := h.val
    rw [← hc, ec] at e1
    refine cancelX hP (IsP.ev hm.1) (prodL_isP hP h.irr) (IsP.const (by have := hP.1; omega) c) (ev_ne hP (pol_const hcp hc0) (by simp)) ?_
    rw [Px.mul_comm, e1, Px.mul_comm]
  obtain ⟨K, k1, k2, k3⟩ := rFac_is hP n hm.1 hm.2.1 (by rw [hm.2.2.1]; exact hn) h.irr e
  rw [k1, fac_same h.ok h.pairwise k2 k3]

end Q
end Go.Proofs.YtbehihanhfmmhaaGreat

namespace Go.Proofs.YtbehihanhfmmhaaGreat
namespace Q
variable {p : Nat}

theorem rFac_facL (hP : M.Pr p) {n : Nat} {f : List Nat} {l : List (List Nat)} {L : List (List Nat × Nat)} (hf : Pol p f) (mf : Mon f) (hn : f.length ≤ n) (hl : ∀ x ∈ l, MIrr p x) (e : ev p f = ev p (prodL p l)) (h : rFac p n f = some L) : FacL p f L l := by
  obtain ⟨K, k1, k2, k3⟩ := rFac_is hP n hf mf hn hl e
  rw [h] at k1
  injection k1 with k1
  subst k1
  refine ⟨hl, k2, ?_, fun i hi => ?_⟩
  · have h1 : f.getD (f.length - 1) 0 = 1 := mf.2
    rw [h1, ev_one, Px.one_mul, e]
  · exact List.pairwise_iff_getElem.1 k3 i (i + 1) (by omega) hi (by omega)

theorem rFac_root (hP : M.Pr p) {n : Nat} {f : List Nat} {l : List (List Nat)} {L : List (List Nat × Nat)} (hf : Pol p f) (mf : Mon f) (hn : f.length ≤ n + 1) (_hl : ∀ x ∈ l, MIrr p x) (_e : ev p f = ev p (prodL p l)) (h1 : ¬ f.length ≤ 1) (hd : (deriv p f).length = 0) (h : rFac p (n + 1) f = some L) :
    Pol p (rootP p f) ∧ Mon (rootP p f) ∧ (rootP p f).length ≤ n ∧ (∃ k, (∀ x ∈ k, MIrr p x) ∧ ev p (rootP p f) = ev p (prodL p k)) ∧ ∃ K, rFac p n (rootP p f) = some K ∧ L = K.map fun x => (x.1, p * x.2) := by
  have hp2 := hP.1
  have hp : 0 < p := by omega
  obtain ⟨r1, r2, _⟩ := root_is hP hf mf.1 hd
  have rm := mon_root hP hf mf hd
  obtain ⟨k, hk, ek⟩ := exists_fac hP _ (Nat.le_refl _) r1 rm
  have hrl : (rootP p f).length ≤ n := by
    rw [rt_len]
    have h4 : (f.length - 1) / p ≤ (f.length - 1) / 2 := Nat.div_le_div_left hp2 (by omega)
    omega
  obtain ⟨K, hK, _, _⟩ := rFac_is hP n r1 rm hrl hk ek
  refine ⟨r1, rm, hrl, ⟨k, hk, ek⟩, K, hK, ?_⟩
  rw [rFac, if_neg h1, if_pos hd, hK] at h
  injection h with h
  exact h.symm

theorem rFac_free (hP : M.Pr p) {n : Nat} {f : List Nat} {l : List (List Nat)} {L : List (List Nat × Nat)} (hf : Pol p f) (mf : Mon f) (hn : f.length ≤ n + 1) (hl : ∀ x ∈ l, MIrr p x) (e : ev p f = ev p (prodL p l)) (h1 : ¬ f.length ≤ 1) (hd : ¬ (deriv p f).length = 0) (h : rFac p (n + 1) f = some L) :
    ∃ lst f', takeAll p 1 (rSplit p (divP p f (gcdP p f (deriv p f))).1) f = some (lst, f') ∧ Pol p f' ∧ Mon f' ∧ f'.length ≤ n ∧ (∃ k, (∀ x ∈ k, MIrr p x) ∧ ev p f' = ev p (prodL p k)) ∧ ∃ K, rFac p n f' = some K ∧ L = (lst ++ K).foldl (fun out x => insR x out) [] := by
  obtain ⟨k, S, mS, eS, hmem⟩ := simple_is hP hf mf hl e hd
  have hpm := rSplit_perm hP S mS eS
  obtain ⟨ps, hps⟩ : ∃ ps, ps = rSplit p (divP p f (gcdP p f (deriv p f))).1 := ⟨_, rfl⟩
  rw [rFac, if_neg h1, if_neg hd] at h
  rw [← hps] at hpm h ⊢
  have hpn : ps.Nodup := hpm.nodup_iff.2 S.nodup
  have hpi : ∀ x ∈ ps, MIrr p x := fun x hx => S.irr x (hpm.mem_iff.1 hx)
  obtain ⟨f', t1, t2, t3, t4⟩ := takeAll_is hP 1 ps hpn hpi hl hf mf e
  rw [t1] at h
  simp only at h
  have hl' : ∀ x ∈ l.filter (fun x => !ps.contains x), MIrr p x := fun x hx => hl x (List.mem_filter.1 hx).1
  have hcl : ∀ x, x ∈ ps → x ∈ l := fun x hx => by
    have := (hmem x (hpi x hx)).1 (hpm.mem_iff.1 hx)
    exact List.count_pos_iff.1 (Nat.pos_of_ne_zero fun h0 => this ⟨0, by omega⟩)
  have hlen : f'.length ≤ n := by
    have hdv : DX p f' (ev p f) := by
      have hsplit : ev p (prodL p l) = ev p (prodL p (l.filter fun x => ps.contains x)) * ev p (prodL p (l.filter fun x => !ps.contains x)) := by
        rw [← ev_prodL_append]
        exact ev_prodL_perm (List.filter_append_perm _ l).symm
      exact ⟨_, prodL_isP hP (l := l.filter fun x => ps.contains x) (fun x hx => hl x (List.mem_filter.1 hx).1), by rw [e, hsplit, t4]⟩
    have h5 := ((dx_iff.1 hdv).len hP t2 hf mf.1).1
    refine Classical.byContradiction fun h6 => ?_
    have h7 : f'.length = f.length := by omega
    have h8 := mon_unique hP t2 hf t3 mf (dx_iff.1 hdv) (Dv.back hP t2 hf mf.1 h7 (dx_iff.1 hdv))
    have h9 : 0 < ps.length := by
      rw [hpm.length_eq]
      refine List.length_pos_iff.2 fun h => ?_
      have := S.two
      rw [h] at eS
      rw [ev_inj (by have := hP.1; omega) S.pol (pol_one hP) eS] at this
      simp at this
    obtain ⟨g, hg⟩ := List.length_pos_iff_exists_mem.1 h9
    have hperm := fac_perm hP hl' hl (by rw [← t4, ← e, h8])
    have := hperm.mem_iff.2 (hcl g hg)
    have := (List.mem_filter.1 this).2
    simp [hg] at this
  obtain ⟨K, hK, _, _⟩ := rFac_is hP n t2 t3 hlen hl' t4
  rw [hK] at h
  injection h with h
  exact ⟨_, f', t1, t2, t3, hlen, ⟨_, hl', t4⟩, K, hK, h.symm⟩

theorem foldl_insR_len (K : List (List Nat × Nat)) : ∀ L : List (List Nat × Nat), (K.foldl (fun out x => insR x out) L).length = L.length + K.length := by
  induction K with
  | nil => intro L; rfl
  | cons x K ih =>
    intro L
    rw [List.foldl_cons, ih, (insR_perm x L).length_eq, List.length_cons, List.length_cons]; omega
theorem takeAll_len (t : Nat) : ∀ (ps : List (List Nat)) (f : List Nat) (l : List (List Nat × Nat)) (f' : List Nat), takeAll p t ps f = some (l, f') → l.length = ps.length
  | [], f, l, f', h => by rw [takeAll] at h; injection h with h; injection h with h _; subst h; rfl
  | q :: ps, f, l, f', h => by
    rw [takeAll] at h
    split at h
    · cases h
    · split at h
      · cases h
      · next h2 =>
        injection h with h
        injection h with h _
        subst h
        simp [takeAll_len t ps _ _ _ h2]

end Q
end Go.Proofs.YtbehihanhfmmhaaGreat

namespace Go.Proofs.YtbehihanhfmmhaaGreat
open Go.RowKit

theorem RdFac.cells {w : World} {b n c : Nat} {L : List FacE} (h : RdFac w (.slice (some ⟨b, 0, none⟩) n c) L) (j : Nat) (u : Value) (hu : (flatF L)[j]? = some u) : w.cell? ⟨b, j, none⟩ = some u := by
  obtain ⟨_, a', cap, h2, _, h4⟩ := h.rd
  injection h2 with h2
  rcases h4 with h0 | ⟨b', e, hb, hcell⟩
  · have hL : L = [] := List.eq_nil_of_length_eq_zero h0
    subst hL; simp [flatF] at hu
  · rw [e] at h2
    injection h2 with h2
    injection h2 with h2
    subst h2
    exact hcell j u hu
theorem RdFac.cellsA {w : World} {ad : Addr} {n c : Nat} {L : List FacE} (h : RdFac w (.slice (some ad) n c) L) (j : Nat) (u : Value) (hu : (flatF L)[j]? = some u) : w.cell? (ad.add j) = some u := by
  obtain ⟨_, a', cap, h2, _, h4⟩ := h.rd
  injection h2 with h2
  rcases h4 with h0 | ⟨b', e, hb, hcell⟩
  · have hL : L = [] := List.eq_nil_of_length_eq_zero h0
    subst hL; simp [flatF] at hu
  · rw [e] at h2
    injection h2 with h2
    subst h2
    have hadd : (⟨b', 0, none⟩ : Addr).add j = ⟨b', j, none⟩ := by unfold Addr.add; split <;> simp_all
    rw [hadd]
    exact hcell j u hu
theorem RdFac.one {w : World} {v : Value} {L : List FacE} (h : RdFac w v L) : ∀ u ∈ flatF L, u.oneCell' = true := by
  intro u hu
  unfold flatF at hu
  obtain ⟨x, hx, hux⟩ := List.mem_flatMap.1 hu
  obtain ⟨a, c, e⟩ := (h.rows x hx).shape
  simp at hux
  rcases hux with rfl | rfl
  · rw [e]; rfl
  · rfl

set_option maxRecDepth 100000 in
set_option maxHeartbeats 2000000 in
theorem rInsert_is (L : List FacE) (xa : Option Addr) (xc xe : Nat) (G : List Nat) (v : Value) (w : World) (hL : Hid (RdFac w v L)) (hx : Hid (Rd w (.slice xa G.length xc) 1 G.length (nats G))) (hlen : L.length ≤ 1000) (hs : Hid (∀ x ∈ L, x.2.1.length ≤ 100000)) (hG : G.length ≤ 100000) :
    Calls Tryz.prog 29 #[v, .agg #[.slice xa G.length xc, .int .i64 (xe : Int)]] w fun e w' => ∃ v' k, e = .returned v' ∧ w'.ownsRow w.heap.size 36 2 v' (L.length + 1) (flatF (L.take k ++ (.slice xa G.length xc, G, xe) :: L.drop k)) ∧ Below w.heap.size w w' ∧ Q.insR (G, xe) (strip L) = strip (L.take k ++ (.slice xa G.length xc, G, xe) :: L.drop k) := by
  obtain ⟨a, cap, rfl, hcap⟩ := hL.out.shape
  obtain ⟨n, hn⟩ : ∃ n, n = L.length := ⟨_, rfl⟩
  obtain ⟨m, hm⟩ : ∃ m, m = G.length := ⟨_, rfl⟩
  have HN := Lib.hid hn
  have HM := Lib.hid hm
  have HAT : Hid (∀ (wx : World), Below w.heap.size w wx → ∀ k (hk : k < L.length), ∃ b x c, HasF wx a L k hk b x c) := fun wx hB k hk => (hL.out.below hB).at k hk
  have HX : Hid (∀ (wx : World), Below w.heap.size w wx → Rd wx (.slice xa G.length xc) 1 G.length (nats G)) := fun wx hB => hx.out.below hB (Nat.le_refl _)
  rw [← hn] at hlen hcap ⊢
  rw [← hm] at hG ⊢
  have HCL : Hid (∀ (wx : World), Below w.heap.size w wx → RdFac wx (.slice a n cap) L) := fun wx hB => by rw [hn]; exact hL.out.below hB
  obtain ⟨i0, hi, hz0, hz1, hz2⟩ := info_parts Tryz.infoF
  clear hn hm hL hx
  go_enter Tryz.func29, Tryz.ntmps29
  go_wp2_with (fail)
  go_loopw [5] (fun iv wx => ∃ (k : Nat), iv = .int .i64 k ∧ k ≤ n ∧ Hid (∀ i (h : i < L.length), i < k → Q.ordP (L[i]).2.1 G < 0) ∧ Hid (Below w.heap.size w wx) ∧ wx.cell? ⟨w.heap.size, 0, none⟩ = some (.slice xa m xc) ∧ wx.cell? ⟨w.heap.size, 1, none⟩ = some (.int .i64 (xe : Int)) ∧ w.heap.size < wx.heap.size) (fun iv _ => n - (intOf iv).toNat)
  case atStart =>
    have hB0 := (Below.refl w.heap.size w).alloc (Nat.le_refl _) (Obj.cells #[.slice xa m xc, .int .i64 (xe : Int)] 36)
    exact ⟨0, rfl, by omega, fun i _ hi => by omega, hB0, by simp, by simp, by simp⟩
  case round =>
    obtain ⟨k, rfl, hk, HK, HB, c0, c1, hsz⟩ := hrel
    by_cases hlt : k < n
    · have hkl : k < L.length := by have := HN.out; omega
      obtain ⟨b, x, c, hf⟩ := HAT.out wr HB.out k hkl
      obtain rfl := hf.eq
      have d0 := hf.c0
      obtain ⟨gp, hgp⟩ : ∃ gp, gp = (L[k]'hkl).2.1 := ⟨_, rfl⟩
      rw [← hgp] at d0
      have HRP : Hid (Rd wr (.slice x gp.length c) 1 gp.length (nats gp)) := by rw [hgp]; exact hf.rd
      have hgpl : gp.length ≤ 100000 := by rw [hgp]; exact hs.out _ (List.getElem_mem hkl)
      have HRG : Hid (Rd wr (.slice xa m xc) 1 G.length (nats G)) := by rw [HM.out]; exact HX.out wr HB.out
      have HGP := Lib.hid hgp
      have hki : (k : Int) < (n : Int) := by omega
      have hk0 : (0 : Int) ≤ (k : Int) := Int.natCast_nonneg _
      clear hf hgp
      have HRPB : ∀ W, Below wr.heap.size wr W → Hid (Rd W (.slice x gp.length c) 1 gp.length (nats gp)) := fun W hW => HRP.out.below hW (Nat.le_refl _)
      have HRGB : ∀ W, Below wr.heap.size wr W → Hid (Rd W (.slice xa m xc) 1 G.length (nats G)) := fun W hW => HRG.out.below hW (Nat.le_refl _)
      by_cases ho : Q.ordP gp G < 0
      · have HO := Lib.hid ho
        have hlG : G.length ≤ 1000000 := by rw [← HM.out]; omega
        clear ho
        go_wp2_with (fail)
        go_region_held3 (fun w' => w'.cell? ⟨b, k * 2, none⟩ = some (.slice x gp.length c) ∧ w'.cell? ⟨w.heap.size, 0, none⟩ = some (.slice xa m xc)) (go_keep)
          ((go_at_call 55; refine (rLess_is gp G _ _ true _ (HRPB _ (by first | exact (Below.refl _ _).drew | exact below_drewN (Below.refl _ _) _ | exact Below.refl _ _)) (HRGB _ (by first | exact (Below.refl _ _).drew | exact below_drewN (Below.refl _ _) _ | exact Below.refl _ _)) (by omega) hlG ⟨fun _ => rfl, fun _ => HO.out⟩).mono ?_; rintro z w3 ⟨rfl, nn, rfl⟩))
        go_wp2_with (fail)
        go_roundw
        case rel =>
          refine ⟨k + 1, by go_num, by omega, fun i hi hik => ?_, ?_, by simpa using c0, by simpa using c1, by simpa using hsz⟩
          · by_cases e1 : i = k
            · subst e1; rw [← HGP.out]; exact HO.out
            · exact HK.out i hi (by omega)
          · exact below_drewN HB.out _
        case measure => simp [intOf]; omega
      · have HO := Lib.hid ho
        have hlG : G.length ≤ 1000000 := by rw [← HM.out]; omega
        clear ho
        go_wp2_with (fail)
        go_region_held3 (fun w' => w'.cell? ⟨b, k * 2, none⟩ = some (.slice x gp.length c) ∧ w'.cell? ⟨w.heap.size, 0, none⟩ = some (.slice xa m xc)) (go_keep)
          ((go_at_call 55; refine (rLess_is gp G _ _ false _ (HRPB _ (by first | exact (Below.refl _ _).drew | exact below_drewN (Below.refl _ _) _ | exact Below.refl _ _)) (HRGB _ (by first | exact (Below.refl _ _).drew | exact below_drewN (Below.refl _ _) _ | exact Below.refl _ _)) (by omega) hlG ⟨fun h => by have h9 := HO.out; exfalso; omega, fun h => by cases h⟩).mono ?_; rintro z w3 ⟨rfl, nn, rfl⟩))
        have c0' : (wr.drewN (1 + nn)).cell? ⟨w.heap.size, 0, none⟩ = some (.slice xa m xc) := by simpa using c0
        have c1' : (wr.drewN (1 + nn)).cell? ⟨w.heap.size, 1, none⟩ = some (.int .i64 (xe : Int)) := by simpa using c1
        have hsz' : w.heap.size < (wr.drewN (1 + nn)).heap.size := by simpa using hsz
        have HBW : Hid (Below w.heap.size w (wr.drewN (1 + nn))) := below_drewN HB.out _
        generalize wr.drewN (1 + nn) = W at c0' c1' hsz' HBW ⊢
        have HR := HCL.out W HBW.out
        have HN1 : Hid (∀ j u, (flatF (L.take k))[j]? = some u → W.cell? ((⟨b, 0, none⟩ : Addr).add j) = some u) := fun j u hu => by
          have hadd : (⟨b, 0, none⟩ : Addr).add j = ⟨b, j, none⟩ := by unfold Addr.add; split <;> simp_all
          rw [hadd]
          refine HR.cells j u ?_
          have e : flatF L = flatF (L.take k) ++ flatF (L.drop k) := by rw [← flatF_append, List.take_append_drop]
          rw [e, List.getElem?_append_left (by
            rcases Nat.lt_or_ge j (flatF (L.take k)).length with h | h
            · exact h
            · rw [List.getElem?_eq_none h] at hu; cases hu)]
          exact hu
        have HN2 : Hid (∀ u ∈ flatF (L.take k), u.oneCell' = true) := fun u hu => HR.one u (by
          have e : flatF L = flatF (L.take k) ++ flatF (L.drop k) := by rw [← flatF_append, List.take_append_drop]
          rw [e]; exact List.mem_append.2 (.inl hu))
        have HN3 : Hid ((flatF (L.take k)).length = k * 2) := by show _ = _; rw [flatF_length, List.length_take]; congr 1; omega
        clear HR c0 c1 hsz d0
        have hkc : (k : Int) ≤ (cap : Int) := by omega
        go_wp2_with (at_builtin; refine wpList_append_own _ rfl _ _ 24 rfl w.heap.size 36 i0 (.agg #[.slice none 0 0, .int .i64 0]) 2 32 Tryz.underlying24 hi hz0 hz1 hz2 rfl (by decide) _ 0 [] rfl (World.ownsRow_nil _ _ _ _) ⟨b, 0, none⟩ k cap (flatF (L.take k)) rfl HN3.out HN1.out HN2.out (by unfold maxLen; omega) (by omega) (by have := HBW.out.size; omega) ?_)
        intro v1 w4 hown4 hgrow4 _
        have hB4 : Below W.heap.size W w4 := (Below.refl _ _).grown hgrow4 (Nat.le_refl _) (by intro g hg; simp [Value.ownBlock] at hg)
        obtain ⟨a1, cp1, hv1, hcp1, _⟩ := own_form hown4
        subst hv1
        have e0 : w4.cell? ⟨w.heap.size, 0, none⟩ = some (.slice xa m xc) := by rw [hB4.cell (p := ⟨w.heap.size, 0, none⟩) hsz']; exact c0'
        have e1 : w4.cell? ⟨w.heap.size, 1, none⟩ = some (.int .i64 (xe : Int)) := by rw [hB4.cell (p := ⟨w.heap.size, 1, none⟩) hsz']; exact c1'
        have HB4 : Hid (Below w.heap.size w w4) := HBW.out.trans (hB4.mono HBW.out.size)
        have HO4 := Lib.hid hown4
        clear hown4 hgrow4 hB4 c0' c1'
        go_wp2_with (at_builtin; refine wpList_append_own _ rfl _ _ 24 rfl w.heap.size 36 i0 (.agg #[.slice none 0 0, .int .i64 0]) 2 32 Tryz.underlying24 hi hz0 hz1 hz2 rfl (by decide) _ _ _ rfl (HO4.out.alloc _) ⟨w4.heap.size, 0, none⟩ 1 1 [.slice xa m xc, .int .i64 (xe : Int)] rfl rfl (World.news_of_block (cs := #[.slice xa m xc, .int .i64 (xe : Int)]) (t := 36) (fr := (0, 0)) (heap_alloc_new w4 _)) (by simp [Value.oneCell']) (by unfold maxLen; omega) (by omega) (by have := HB4.out.size; simp; omega) ?_)
        intro v2 w5 hown5 hgrow5 _
        have HB5 : Hid (Below w.heap.size w w5) := (HB4.out.alloc HB4.out.size _).grown hgrow5 (by have := HB4.out.size; simp; omega) (fun g hg => (HO4.out.lt g hg).1)
        obtain ⟨a2, cp2, hv2, hcp2, _⟩ := own_form hown5
        subst hv2
        have HO5 := Lib.hid hown5
        have HR5 := HCL.out w5 HB5.out
        have hkn : (k : Int) ≤ (n : Int) := by omega
        have hnc : (n : Int) ≤ (cap : Int) := by omega
        have eL : flatF L = flatF (L.take k) ++ flatF (L.drop k) := by rw [← flatF_append, List.take_append_drop]
        have HN4 : Hid (∀ j u, (flatF (L.drop k))[j]? = some u → w5.cell? ((⟨b, k * 2, none⟩ : Addr).add j) = some u) := fun j u hu => by
          have hadd : (⟨b, k * 2, none⟩ : Addr).add j = ⟨b, k * 2 + j, none⟩ := by unfold Addr.add; split <;> simp_all
          rw [hadd]
          refine HR5.cells _ u ?_
          rw [eL, List.getElem?_append_right (by rw [HN3.out]; omega), HN3.out, Nat.add_sub_cancel_left]
          exact hu
        have HN5 : Hid (∀ u ∈ flatF (L.drop k), u.oneCell' = true) := fun u hu => HR5.one u (by rw [eL]; exact List.mem_append.2 (.inr hu))
        have HN6 : Hid ((flatF (L.drop k)).length = (n - k) * 2) := by show _ = _; rw [flatF_length, List.length_drop, ← HN.out]
        clear HR5 eL hown5 hgrow5 e0 e1
        go_wp2_with (at_builtin; refine wpList_append_own _ rfl _ _ 24 rfl w.heap.size 36 i0 (.agg #[.slice none 0 0, .int .i64 0]) 2 32 Tryz.underlying24 hi hz0 hz1 hz2 rfl (by decide) _ _ _ rfl HO5.out ⟨b, k * 2, none⟩ (n - k) (cap - k) (flatF (L.drop k)) rfl HN6.out HN4.out HN5.out (by unfold maxLen; omega) (by omega) HB5.out.size ?_)
        intro v3 w6 hown6 hgrow6 _
        have HB6 : Hid (Below w.heap.size w w6) := HB5.out.grown hgrow6 HB5.out.size (fun g hg => (HO5.out.lt g hg).1)
        have HO6 : Hid (w6.ownsRow w.heap.size 36 2 v3 (n + 1) (flatF (L.take k ++ (.slice xa m xc, G, xe) :: L.drop k))) := by
          show World.ownsRow _ _ _ _ _ _ _
          rw [flatF_append, show flatF ((Value.slice xa m xc, G, xe) :: L.drop k) = [.slice xa m xc, .int .i64 (xe : Int)] ++ flatF (L.drop k) from rfl]
          rw [show n + 1 = k + 1 + (n - k) by omega]
          exact hown6
        have HI : Hid (Q.insR (G, xe) (strip L) = strip (L.take k ++ (.slice xa m xc, G, xe) :: L.drop k)) := by
          show _ = _
          rw [Q.insR_at (G, xe) (strip L) k (by simp [strip]; omega) (fun i hi hik => by simpa [strip] using HK.out i (by simpa [strip] using hi) hik) (fun h => by
            have h1 := HO.out
            rw [HGP.out] at h1
            simpa [strip] using h1)]
          simp [strip, List.map_take, List.map_drop]
        obtain ⟨a3, cp3, hv3, _, _⟩ := own_form hown6
        subst hv3
        clear hown6 hgrow6
        go_wp2_with (fail)
        go_ret
        exact ⟨_, k, rfl, HO6.out, HB6.out, HI.out⟩
    · obtain rfl : k = n := by omega
      have hkk : ((k : Int) < (k : Int)) = False := by simp
      go_wp2_with (fail)
      go_region
      rcases a with _ | ad
      · have hL0 : L = [] := by
          obtain ⟨_, a', cap', h2, _, h4⟩ := (HCL.out wr HB.out).rd
          rcases h4 with h0 | ⟨b', e, _⟩
          · exact List.eq_nil_of_length_eq_zero h0
          · rw [e] at h2; injection h2 with h2; cases h2
        subst hL0
        obtain rfl : k = 0 := by have := HN.out; simpa using this
        have c0' : wr.drew.cell? ⟨w.heap.size, 0, none⟩ = some (.slice xa m xc) := by simpa using c0
        have c1' : wr.drew.cell? ⟨w.heap.size, 1, none⟩ = some (.int .i64 (xe : Int)) := by simpa using c1
        have HBW : Hid (Below w.heap.size w wr.drew) := HB.out.drew
        generalize wr.drew = W at c0' c1' HBW ⊢
        clear c0 c1 hsz
        go_wp2_with (at_builtin; refine wpList_append_own _ rfl _ _ 24 rfl w.heap.size 36 i0 (.agg #[.slice none 0 0, .int .i64 0]) 2 32 Tryz.underlying24 hi hz0 hz1 hz2 rfl (by decide) _ 0 [] rfl (World.ownsRow_nil _ _ _ _) ⟨W.heap.size, 0, none⟩ 1 1 [.slice xa m xc, .int .i64 (xe : Int)] rfl rfl (World.news_of_block (cs := #[.slice xa m xc, .int .i64 (xe : Int)]) (t := 36) (fr := (0, 0)) (heap_alloc_new W _)) (by simp [Value.oneCell']) (by unfold maxLen; omega) (by omega) (by have := HBW.out.size; simp; omega) ?_)
        intro v2 w5 hown5 hgrow5 _
        have HB5 : Hid (Below w.heap.size w w5) := (HBW.out.alloc HBW.out.size _).grown hgrow5 (by have := HBW.out.size; simp; omega) (fun g hg => by simp [Value.ownBlock] at hg)
        obtain ⟨a2, cp2, hv2, hcp2, _⟩ := own_form hown5
        subst hv2
        have HO6 : Hid (w5.ownsRow w.heap.size 36 2 (.slice a2 1 cp2) 1 (flatF [(.slice xa m xc, G, xe)])) := hown5
        clear hown5 hgrow5
        rcases a2 with _ | ad2
        all_goals
          go_wp2_with (fail)
          all_goals
            go_ret
            exact ⟨_, 0, rfl, HO6.out, HB5.out, rfl⟩
      · skip
        have c0' : (wr.drew).cell? ⟨w.heap.size, 0, none⟩ = some (.slice xa m xc) := by simpa using c0
        have c1' : (wr.drew).cell? ⟨w.heap.size, 1, none⟩ = some (.int .i64 (xe : Int)) := by simpa using c1
        have hsz' : w.heap.size < (wr.drew).heap.size := by simpa using hsz
        have HBW : Hid (Below w.heap.size w (wr.drew)) := HB.out.drew
        generalize wr.drew = W at c0' c1' hsz' HBW ⊢
        have HR := HCL.out W HBW.out
        have HN1 : Hid (∀ j u, (flatF (L.take k))[j]? = some u → W.cell? (ad.add j) = some u) := fun j u hu => by
          refine HR.cellsA j u ?_
          have e : flatF L = flatF (L.take k) ++ flatF (L.drop k) := by rw [← flatF_append, List.take_append_drop]
          rw [e, List.getElem?_append_left (by
            rcases Nat.lt_or_ge j (flatF (L.take k)).length with h | h
            · exact h
            · rw [List.getElem?_eq_none h] at hu; cases hu)]
          exact hu
        have HN2 : Hid (∀ u ∈ flatF (L.take k), u.oneCell' = true) := fun u hu => HR.one u (by
          have e : flatF L = flatF (L.take k) ++ flatF (L.drop k) := by rw [← flatF_append, List.take_append_drop]
          rw [e]; exact List.mem_append.2 (.inl hu))
        have HN3 : Hid ((flatF (L.take k)).length = k * 2) := by show _ = _; rw [flatF_length, List.length_take]; congr 1; have := HN.out; omega
        clear HR c0 c1 hsz
        have hkc : (k : Int) ≤ (cap : Int) := by omega
        go_wp2_with (at_builtin; refine wpList_append_own _ rfl _ _ 24 rfl w.heap.size 36 i0 (.agg #[.slice none 0 0, .int .i64 0]) 2 32 Tryz.underlying24 hi hz0 hz1 hz2 rfl (by decide) _ 0 [] rfl (World.ownsRow_nil _ _ _ _) ad k cap (flatF (L.take k)) rfl HN3.out HN1.out HN2.out (by unfold maxLen; omega) (by omega) (by have := HBW.out.size; omega) ?_)
        intro v1 w4 hown4 hgrow4 _
        have hB4 : Below W.heap.size W w4 := (Below.refl _ _).grown hgrow4 (Nat.le_refl _) (by intro g hg; simp [Value.ownBlock] at hg)
        obtain ⟨a1, cp1, hv1, hcp1, _⟩ := own_form hown4
        subst hv1
        have e0 : w4.cell? ⟨w.heap.size, 0, none⟩ = some (.slice xa m xc) := by rw [hB4.cell (p := ⟨w.heap.size, 0, none⟩) hsz']; exact c0'
        have e1 : w4.cell? ⟨w.heap.size, 1, none⟩ = some (.int .i64 (xe : Int)) := by rw [hB4.cell (p := ⟨w.heap.size, 1, none⟩) hsz']; exact c1'
        have HB4 : Hid (Below w.heap.size w w4) := HBW.out.trans (hB4.mono HBW.out.size)
        have HO4 := Lib.hid hown4
        clear hown4 hgrow4 hB4 c0' c1'
        go_wp2_with (at_builtin; refine wpList_append_own _ rfl _ _ 24 rfl w.heap.size 36 i0 (.agg #[.slice none 0 0, .int .i64 0]) 2 32 Tryz.underlying24 hi hz0 hz1 hz2 rfl (by decide) _ _ _ rfl (HO4.out.alloc _) ⟨w4.heap.size, 0, none⟩ 1 1 [.slice xa m xc, .int .i64 (xe : Int)] rfl rfl (World.news_of_block (cs := #[.slice xa m xc, .int .i64 (xe : Int)]) (t := 36) (fr := (0, 0)) (heap_alloc_new w4 _)) (by simp [Value.oneCell']) (by unfold maxLen; omega) (by omega) (by have := HB4.out.size; simp; omega) ?_)
        intro v2 w5 hown5 hgrow5 _
        have HB5 : Hid (Below w.heap.size w w5) := (HB4.out.alloc HB4.out.size _).grown hgrow5 (by have := HB4.out.size; simp; omega) (fun g hg => (HO4.out.lt g hg).1)
        obtain ⟨a2, cp2, hv2, hcp2, _⟩ := own_form hown5
        subst hv2
        have HO5 := Lib.hid hown5
        have hnc : (k : Int) ≤ (cap : Int) := by omega
        have HDR : Hid (L.drop k = []) := List.drop_eq_nil_of_le (by have := HN.out; omega)
        have HO6 : Hid (w5.ownsRow w.heap.size 36 2 (.slice a2 (k + 1) cp2) (k + 1) (flatF (L.take k ++ (.slice xa m xc, G, xe) :: L.drop k))) := by
          show World.ownsRow _ _ _ _ _ _ _
          rw [flatF_append, HDR.out]
          exact HO5.out
        have HI : Hid (Q.insR (G, xe) (strip L) = strip (L.take k ++ (.slice xa m xc, G, xe) :: L.drop k)) := by
          show _ = _
          rw [Q.insR_at (G, xe) (strip L) k (by simp [strip]; have := HN.out; omega) (fun i hi hik => by simpa [strip] using HK.out i (by simpa [strip] using hi) hik) (fun h => absurd h (by simp [strip]; have := HN.out; omega))]
          simp [strip, List.map_take, List.map_drop]
        clear hown5 hgrow5 e0 e1
        rcases a2 with _ | ad2
        all_goals
          go_wp2_with (fail)
          all_goals
            go_ret
            exact ⟨_, k, rfl, HO6.out, HB5.out, HI.out⟩

end Go.Proofs.YtbehihanhfmmhaaGreat

namespace Go.Proofs.YtbehihanhfmmhaaGreat
open Go.RowKit

/-- A list of factors that grows, of polynomials that were there. -/
structure FcR (w wr : World) (v : Value) (L : List FacE) : Prop where
  own : wr.ownsRow w.heap.size 36 2 v L.length (flatF L)
  rows : ∀ x ∈ L, Rd w x.1 1 x.2.1.length (nats x.2.1)
  below : Below w.heap.size w wr
theorem FcR.nil (w : World) : FcR w w (.slice none 0 0) [] := ⟨World.ownsRow_nil _ _ _ _, fun x hx => by simp at hx, Below.refl _ _⟩
theorem FcR.fac {w wr : World} {v : Value} {L : List FacE} (h : FcR w wr v L) : RdFac wr v L := ⟨Rd.of_own h.own, fun x hx => (h.rows x hx).below h.below (Nat.le_refl _)⟩
theorem FcR.append {w wr wa wx : World} {v v' : Value} {L : List FacE} {x : FacE} (h : FcR w wr v L) (hBa : Below wr.heap.size wr wa) (hx : Rd w x.1 1 x.2.1.length (nats x.2.1))
    (hown : wx.ownsRow w.heap.size 36 2 v' (L.length + 1) (flatF L ++ [x.1, .int .i64 (x.2.2 : Int)])) (hg : wa.grownBy wx v.ownBlock) : FcR w wx v' (L ++ [x]) := by
  refine ⟨?_, fun y hy => ?_, (h.below.trans (hBa.mono h.below.size)).grown hg (Nat.le_trans h.below.size hBa.size) fun g hg' => (h.own.lt g hg').1⟩
  · rw [List.length_append, flatF_append]
    exact hown
  · rcases List.mem_append.1 hy with h1 | h1
    · exact h.rows y h1
    · simp at h1; subst h1; exact hx
theorem RdFac.nil (w : World) : RdFac w (.slice none 0 0) [] := ⟨⟨rfl, none, 0, rfl, Nat.le_refl _, .inl rfl⟩, fun x hx => by simp at hx⟩
theorem RdFac.slen {w : World} {v : Value} {L : List FacE} {K : List (List Nat × Nat)} (_h : RdFac w v L) (e : strip L = K) : L.length = K.length := by rw [← e]; simp [strip]

/-- A list that does not lie in a block. -/
def RdX (bx : Nat) (w : World) (v : Value) (M : List Nat) : Prop := Rd w v 1 M.length (nats M) ∧ (M.length = 0 ∨ v.ownBlock ≠ some bx)
theorem RdX.set {bx j : Nat} {w : World} {v : Value} {M : List Nat} (h : RdX bx w v M) (u : Value) : RdX bx (w.setCell ⟨bx, j, none⟩ u) v M := by
  obtain ⟨⟨hl, a, cap, rfl, hc, h4⟩, hne⟩ := h
  refine ⟨⟨hl, a, cap, rfl, hc, ?_⟩, hne⟩
  rcases h4 with h4 | ⟨b, rfl, hb, hcell⟩
  · exact .inl h4
  · rcases hne with hne | hne
    · exact .inl hne
    · refine .inr ⟨b, rfl, by simpa using hb, fun i x hx => ?_⟩
      rw [World.cell?_setCell_other _ _ _ _ (by intro e; injection e with e; exact hne (by simp [Value.ownBlock, e]))]
      exact hcell i x hx
theorem RdX.below {bx : Nat} {w w' : World} {v : Value} {M : List Nat} (h : RdX bx w v M) (hB : Below w.heap.size w w') : RdX bx w' v M := ⟨h.1.below hB (Nat.le_refl _), h.2⟩
theorem RdX.old {w w' : World} {v : Value} {M : List Nat} (h : Rd w v 1 M.length (nats M)) (hB : Below w.heap.size w w') : RdX w.heap.size w' v M := by
  refine ⟨h.below hB (Nat.le_refl _), ?_⟩
  obtain ⟨_, a, cap, rfl, _, h4⟩ := h
  rcases h4 with h4 | ⟨b, rfl, hb, _⟩
  · exact .inl h4
  · refine .inr fun e => ?_
    simp [Value.ownBlock] at e; omega
theorem RdX.new {bx : Nat} {wc w' : World} {v : Value} {M : List Nat} (h : NewL wc w' v M) (hb : bx < wc.heap.size) : RdX bx w' v M := ⟨h.rd, .inr fun e => by have := (h.lt bx e).1; omega⟩
theorem RdFac.insert {w w' : World} {v v' : Value} {L : List FacE} {k : Nat} {x : FacE} (h : RdFac w v L) (hx : Rd w x.1 1 x.2.1.length (nats x.2.1)) (hB : Below w.heap.size w w') (ho : w'.ownsRow w.heap.size 36 2 v' (L.length + 1) (flatF (L.take k ++ x :: L.drop k))) : RdFac w' v' (L.take k ++ x :: L.drop k) ∧ (L.take k ++ x :: L.drop k).length = L.length + 1 := by
  have hl : (L.take k ++ x :: L.drop k).length = L.length + 1 := by
    rw [List.length_append, List.length_cons, List.length_take, List.length_drop]; omega
  refine ⟨⟨by rw [hl]; exact Rd.of_own ho, fun y hy => ?_⟩, hl⟩
  rcases List.mem_append.1 hy with h1 | h1
  · exact (h.rows y (List.mem_of_mem_take h1)).below hB (Nat.le_refl _)
  · rcases List.mem_cons.1 h1 with h2 | h2
    · rw [h2]; exact hx.below hB (Nat.le_refl _)
    · exact (h.rows y (List.mem_of_mem_drop h2)).below hB (Nat.le_refl _)
theorem mem_insert {α : Type} {L : List α} {k : Nat} {x y : α} (h : y ∈ L.take k ++ x :: L.drop k) : y ∈ L ∨ y = x := by
  rcases List.mem_append.1 h with h1 | h1
  · exact .inl (List.mem_of_mem_take h1)
  · rcases List.mem_cons.1 h1 with h2 | h2
    · exact .inr h2
    · exact .inl (List.mem_of_mem_drop h2)
def lenV : Value → Nat | .slice _ n _ => n | _ => 0

def RetFa (w : World) (L : List (List Nat × Nat)) (x : Ending) (w' : World) : Prop := (∃ v' L', x = .returned v' ∧ RdFac w' v' L' ∧ strip L' = L) ∧ Below w.heap.size w w'

theorem Q.rSplitV_ok {p B : Nat} (hP : M.Pr p) (nb : Nat) : ∀ (vs : List (List Nat)) (Ms : List (List Nat)), Q.PartsOk p B Ms → Q.PartsOk p B (Q.rSplitV p nb vs Ms)
  | [], Ms, h => by rw [Q.rSplitV]; exact h
  | v :: vs, Ms, h => by
    rw [Q.rSplitV]
    split
    · split
      · exact Q.rSplitV_ok hP nb vs Ms h
      · exact Q.rSplitV_ok hP nb vs _ (Q.rBy_ok hP h)
    · exact h
theorem Q.rSplit_ok {p : Nat} (hP : M.Pr p) {F : List Nat} (hF : Q.Pol p F) : Q.PartsOk p F.length (Q.rSplit p F) := by
  rw [Q.rSplit]
  split
  · intro M hM; simp at hM
  · exact Q.rSplitV_ok hP _ _ _ (by intro M hM; simp at hM; subst hM; exact ⟨hF, by omega, Nat.le_refl _⟩)

set_option maxRecDepth 100000 in
set_option maxHeartbeats 8000000 in
theorem rfactor_is (p : Nat) (hP : Hid (M.Pr p)) (hp2 : p ≤ 1021) : ∀ (n : Nat) (F : List Nat) (l : List (List Nat)) (L : List (List Nat × Nat)) (v : Value) (w : World) (_hr : Hid (Rd w v 1 F.length (nats F))) (_hF : Hid (Q.Pol p F)) (_mF : Hid (Q.Mon F)) (_hn : Hid (F.length ≤ n)) (_hl : F.length ≤ 900) (_hi : Hid (∀ x ∈ l, Q.MIrr p x)) (_he : Hid (Q.ev p F = Q.ev p (Q.prodL p l))) (_hD : Hid (Q.rFac p n F = some L)),
    Calls Tryz.prog 11 #[.int .i64 p, v] w (RetFa w L) := by
  have hp : 2 ≤ p := hP.out.1
  intro n
  induction n with
  | zero => intro F l L v w _ _ _ _ _ _ _ hD; cases hD.out
  | succ n ih =>
    intro F l L v w hr hF mF hn hl hi he hD
    have IH := Lib.hid ih
    clear ih
    have HFL : Hid (Q.FacL p F L l) := Q.rFac_facL hP.out hF.out mF.out hn.out hi.out he.out hD.out
    have HSM : Hid (∀ x ∈ L, x.2 ≤ 900 ∧ x.1.length ≤ 900 ∧ Q.Pol p x.1) := fun x hx => by
      obtain ⟨i, hi', rfl⟩ := List.getElem_of_mem hx
      have h1 := HFL.out.small hP.out hF.out mF.out.1 i hi'
      exact ⟨by omega, by omega, (HFL.out.mem _ hx).1.irr.pol⟩
    have hLl : L.length ≤ 900 := by have := HFL.out.len hP.out hF.out mF.out.1; omega
    obtain ⟨a, cv, hv⟩ := hr.out.shape
    subst hv
    obtain ⟨m, hm⟩ : ∃ m, m = F.length := ⟨_, rfl⟩
    have HM := Lib.hid hm
    have HR : Hid (Rd w (.slice a m cv) 1 F.length (nats F)) := by show Rd _ _ _ _ _; rw [hm]; exact hr.out
    have hm0 : m ≠ 0 := by rw [hm]; exact mF.out.1
    have hmn9 : F.length ≤ 900 := hl
    rw [← hm] at hl ⊢
    clear hm hr
    obtain ⟨i0, hi0, hz0, hz1, hz2⟩ := info_parts Tryz.infoZ
    obtain ⟨j0, hj0, hx0, hx1, hx2⟩ := info_parts Tryz.infoF
    by_cases h1 : m ≤ 1
    · have hE : Hid (L = []) := by
        have := hD.out
        rw [Q.rFac, if_pos (by rw [← HM.out]; exact h1)] at this
        injection this with this
        exact this.symm
      have hd : (m : Int) ≤ 1 := by omega
      rw [hE.out]
      clear h1
      go_enter Tryz.func11, Tryz.ntmps11
      go_wp2_with (fail)
      go_ret
      exact ⟨⟨_, [], rfl, RdFac.nil _, rfl⟩, Below.refl _ _⟩
    · have hd : ¬ (m : Int) ≤ 1 := by omega
      have h1F : ¬ F.length ≤ 1 := by rw [← HM.out]; exact h1
      have HFR : Hid (Q.Red p F) := hF.out.red
      have HDP : Hid (Q.Pol p (Q.deriv p F)) := Q.drv_pol (by omega) F
      obtain ⟨D, hDe⟩ : ∃ D, D = Q.deriv p F := ⟨_, rfl⟩
      rw [← hDe] at HDP
      have HDE := Lib.hid hDe
      have hDl : D.length ≤ m := by
        rw [hDe]
        have h9 := Q.trimLen_le ((List.range (F.length - 1)).map fun i => (i + 1) * F.getD (i + 1) 0 % p)
        unfold Q.deriv
        rw [Q.trim_length]
        refine Nat.le_trans h9 ?_
        have := HM.out
        simp; omega
      by_cases hd0 : D.length = 0
      · obtain ⟨r1, rm, r3, ⟨k, hk, ek⟩, K, hK, eK⟩ := Q.rFac_root hP.out hF.out mF.out hn.out hi.out he.out h1F (by rw [← hDe]; exact hd0) hD.out
        have hKl : K.length ≤ 900 := by rw [eK] at hLl; simpa using hLl
        have HKS : Hid (∀ x ∈ K, p * x.2 ≤ 900 ∧ x.1.length ≤ 900 ∧ Q.Pol p x.1) := fun x hx => by
          have := HSM.out (x.1, p * x.2) (by rw [eK]; exact List.mem_map.2 ⟨x, hx, rfl⟩)
          exact this
        have HEK := Lib.hid eK
        have HKD := Lib.hid hK
        have HRP := Lib.hid r1
        have HRM := Lib.hid rm
        have HRL := Lib.hid r3
        have HKI := Lib.hid hk
        have HKE := Lib.hid ek
        obtain ⟨R, hR⟩ : ∃ R, R = Q.rootP p F := ⟨_, rfl⟩
        rw [← hR] at HKD HRP HRM HRL HKE
        have hRl : R.length = (m - 1) / p + 1 := by rw [hR, Q.rt_len, HM.out]
        have HTK : Hid (∀ j, j < R.length → R.take (j + 1) = R.take j ++ [F.getD (j * p) 0]) := fun j hj => by
          rw [List.take_succ_eq_append_getElem hj]
          have h9 : R.getD j 0 = F.getD (j * p) 0 := by rw [hR]; exact Q.root_getD F j (by rw [hRl, HM.out] at hj; exact hj)
          rw [← h9]
          simp [List.getD, hj]
        have HLT : Hid (∀ j, j < R.length → j * p < m) := fun j hj => by
          have h8 : j ≤ (m - 1) / p := by omega
          have h9 := (Nat.le_div_iff_mul_le (by omega : 0 < p)).1 h8
          omega
        have HGE : Hid (∀ j, j ≤ R.length → ¬ j * p < m → j = R.length) := fun j hj h => by
          refine Classical.byContradiction fun h8 => h ?_
          have h8 : j ≤ (m - 1) / p := by omega
          have h9 := (Nat.le_div_iff_mul_le (by omega : 0 < p)).1 h8
          omega
        have HNL : Hid (¬ R.length * p > m - 1 → False) := fun h => h (by
          have h9 := Nat.lt_succ_self ((m - 1) / p)
          have h8 := (Nat.div_lt_iff_lt_mul (by omega : 0 < p)).1 h9
          rw [hRl]; exact h8)
        have hRl2 : R.length ≤ 900 := by
          have : (m - 1) / p ≤ m - 1 := Nat.div_le_self _ _
          omega
        have hd0' : ((D.length : Int) == 0) = true := by rw [hd0]; rfl
        have HC : Hid (∀ W, Below w.heap.size w W → ∀ i, i < m → ∃ b, a = some ⟨b, 0, none⟩ ∧ W.cell? ⟨b, i, none⟩ = some (.int .i64 (F.getD i 0 : Nat))) := fun W hW i hi => by
          obtain ⟨b, h8, _, h9⟩ := (HR.out.below hW (Nat.le_refl _)).at i (by rw [← HM.out]; exact hi)
          exact ⟨b, h8, h9⟩
        clear r1 rm r3 hk ek hK eK hDe hd0 hRl hR h1F hi he hn hD mF hF HFL hmn9
        go_enter Tryz.func11, Tryz.ntmps11
        go_wp2_with (fail)
        refine (rDeriv_is p F _ _ hp hp2 (by rw [HM.out] at HR ⊢; exact HR) HFR (by have := HM.out; omega)).mono ?_
        rintro e w1 ⟨⟨v1, rfl, hN1⟩, hB1⟩
        rw [← HDE.out] at hN1
        obtain ⟨a1, c1, hv1⟩ := hN1.rd.shape
        subst hv1
        have HB1 := Lib.hid hB1
        clear hN1 hB1
        have hL0 : Hid (LSt w1 w1 (.slice none 0 0) (R.take 0)) := by show LSt _ _ _ _; rw [List.take_zero]; exact LSt.start w1
        go_wp2_with (fail)
        go_loopw [6, 7] (fun rv iv wx => ∃ (j i k3 cap3 : Nat) (a3 : Option Addr), rv = .slice a3 k3 cap3 ∧ iv = .int .i64 i ∧ j ≤ R.length ∧ Hid (k3 = j) ∧ Hid (i = j * p) ∧ i ≤ 2000 ∧ Hid (LSt w1 wx (.slice a3 k3 cap3) (R.take j))) (fun _ iv _ => m + 2000 - (intOf iv).toNat)
        case atStart => exact ⟨0, 0, 0, 0, none, rfl, rfl, by omega, rfl, (by show _ = _; omega), by omega, hL0⟩
        case round =>
          obtain ⟨j, i, k3, cap3, a3, rfl, rfl, hj, HK3, HI, hi2, HS⟩ := hrel
          have hkl : (R.take j).length = j := by rw [List.length_take]; omega
          obtain ⟨a3', cap3', hv3, hc3, hc4⟩ := HS.out.shape
          rw [hkl] at hv3 hc3
          injection hv3 with h1' h2' h3'
          subst h1' h3'
          obtain rfl : j = k3 := h2'.symm
          by_cases hlt : i < m
          · have hjl : j < R.length := by
              refine Classical.byContradiction fun h => ?_
              have h9 : j = R.length := by omega
              have h10 := HI.out
              rw [h10, h9] at hlt
              exact HNL.out (by omega)
            obtain ⟨b, rfl, c1⟩ := HC.out wr (HB1.out.trans (HS.out.2.mono HB1.out.size)) i hlt
            obtain ⟨x, hx⟩ : ∃ x, x = F.getD i 0 := ⟨_, rfl⟩
            rw [← hx] at c1
            have HT : Hid (R.take (j + 1) = R.take j ++ [x]) := by show _ = _; rw [HTK.out j hjl, hx, HI.out]
            have HOWN : Hid (wr.ownsRow w1.heap.size 3 1 (.slice a3 j cap3) j (nats (R.take j))) := by
              have := HS.out.1; unfold NewL at this; rw [hkl] at this; exact this
            have HKL := Lib.hid hkl
            have him : (i : Int) < (m : Int) := by omega
            have HN' : Hid (i + p = (j + 1) * p) := by show _ = _; rw [Nat.succ_mul, HI.out]
            clear hx hkl
            go_wp2_with ((at_builtin; refine wpList_append_own _ rfl _ _ 22 rfl w1.heap.size 3 i0 (.int .i64 0) 1 8 Tryz.underlying22 hi0 hz0 hz1 hz2 rfl (by decide) _ _ _ rfl (HOWN.out.alloc _) ⟨wr.heap.size, 0, none⟩ 1 1 [.int .i64 (x : Int)] rfl rfl (cell_one_new _ _ _) (by intro u hu; simp at hu; rw [hu]; rfl) (by unfold maxLen; omega) (by omega) (by simp; have h8 := HS.out.2.size; omega) ?_))
            intro v' w3 hown3 hgrow3 _
            have HS3 : Hid (LSt w1 w3 v' (R.take (j + 1))) := by
              show LSt _ _ _ _
              rw [HT.out]
              exact HS.out.push (by rw [HKL.out]) hown3 hgrow3
            obtain ⟨a5, cp5, hv5, _⟩ := own_form hown3
            subst hv5
            have HK5 : Hid (j + 1 = j + 1) := rfl
            clear hown3 hgrow3
            go_wp2_with (fail)
            go_roundw
            case rel => exact ⟨j + 1, i + p, j + 1, cp5, a5, rfl, by go_num, by omega, HK5, HN', by omega, HS3⟩
            case measure => simp [intOf]; omega
          · have hjR : j = R.length := HGE.out j hj (by rw [← HI.out]; exact hlt)
            have him : ¬ (i : Int) < (m : Int) := by omega
            have hRt : R.take j = R := List.take_of_length_le (by omega)
            have HRR : Hid (Rd wr (.slice a3 R.length cap3) 1 R.length (nats R)) := by
              have h8 := HS.out.1.rd
              rw [hRt, hjR] at h8
              exact h8
            have HB2 : Hid (Below w.heap.size w wr) := HB1.out.trans (HS.out.2.mono HB1.out.size)
            clear hRt hlt
            go_wp2_with (fail)
            refine (IH.out R k K _ _ HRR HRP HRM HRL hRl2 HKI HKE HKD).mono ?_
            rintro e w4 ⟨⟨v4, L4, rfl, hF4, hS4⟩, hB4⟩
            obtain ⟨a4, c4, hv4, hc44⟩ := hF4.shape
            subst hv4
            obtain ⟨n4, hn4⟩ : ∃ n4, n4 = L4.length := ⟨_, rfl⟩
            have hn4l : n4 ≤ 900 := by rw [hn4, hF4.slen hS4]; exact hKl
            have HF4 : Hid (RdFac w4 (.slice a4 n4 c4) L4) := by show RdFac _ _ _; rw [hn4]; exact hF4
            have HB4 : Hid (Below w.heap.size w w4) := HB2.out.trans (hB4.mono HB2.out.size)
            have HN4 := Lib.hid hn4
            have HS4 := Lib.hid hS4
            have HLL : Hid (L.length = n4) := by show _ = _; rw [HEK.out, List.length_map, ← hF4.slen hS4, hn4]
            rw [← hn4] at hc44 ⊢
            have HO0 : Hid (FcR w4 w4 (.slice none 0 0) []) := FcR.nil _
            clear hF4 hS4 hB4 hn4
            go_wp2_with (fail)
            go_loopw [8, 10] (fun ov iv wx => ∃ (i k8 c8 : Nat) (a8 : Option Addr) (Lo : List FacE), ov = .slice a8 k8 c8 ∧ iv = .int .i64 i ∧ i ≤ n4 ∧ k8 ≤ 900 ∧ Hid (Lo.length = k8) ∧ Hid (k8 = i) ∧ Hid (FcR w4 wx (.slice a8 k8 c8) Lo) ∧ Hid (strip Lo = L.take i)) (fun _ iv _ => n4 - (intOf iv).toNat)
            case atStart => exact ⟨0, 0, 0, none, [], rfl, rfl, by omega, by omega, rfl, rfl, HO0, rfl⟩
            case round =>
              obtain ⟨i, k8, c8, a8, Lo, rfl, rfl, hi3, hk8, HLo, HK8, HO, HSo⟩ := hrel
              by_cases hin : i < n4
              · have hi4 : i < L4.length := by rw [← HN4.out]; exact hin
                obtain ⟨b, x, c, hf⟩ := HF4.out.at i hi4
                have hfe := hf.eq
                subst hfe
                have hbl := hf.lt
                have d0 := (HO.out.below.cell (p := ⟨b, i * 2, none⟩) hbl).trans hf.c0
                have d1 := (HO.out.below.cell (p := ⟨b, i * 2 + 1, none⟩) hbl).trans hf.c1
                obtain ⟨G, hG⟩ : ∃ G, G = L4[i].2.1 := ⟨_, rfl⟩
                obtain ⟨ex, hex⟩ : ∃ ex, ex = L4[i].2.2 := ⟨_, rfl⟩
                rw [← hG] at d0
                rw [← hex] at d1
                have hGK : (G, ex) ∈ K := by
                  rw [← HS4.out, hG, hex]
                  exact List.mem_map.2 ⟨L4[i], List.getElem_mem hi4, rfl⟩
                have hks := HKS.out _ hGK
                have hpe : p * ex ≤ 900 := hks.1
                have hGl : G.length ≤ 900 := hks.2.1
                have HGP : Hid (Q.Pol p G) := hks.2.2
                have HGR : Hid (Rd w4 (.slice x G.length c) 1 G.length (nats G)) := by
                  have := hf.rd
                  rw [← hG] at this; exact this
                obtain ⟨z, hz⟩ : ∃ z, z = p * ex := ⟨_, rfl⟩
                have hzi : (p : Int) * (ex : Int) = (z : Int) := by rw [hz]; exact (Int.natCast_mul p ex).symm
                rw [← hz] at hpe
                have hw0 : IntKind.i64.wrap (z : Int) = (z : Int) := IntWalk.i64_in _ (by omega)
                have HTK2 : Hid (L.take (i + 1) = L.take i ++ [(G, z)]) := by
                  show _ = _
                  have hiL : i < L.length := by rw [HLL.out]; exact hin
                  rw [List.take_succ_eq_append_getElem hiL]
                  congr 2
                  have hiK : i < K.length := by have := HLL.out; rw [HEK.out, List.length_map] at this; omega
                  have h8 : L[i] = (K[i].1, p * K[i].2) := by simp [HEK.out]
                  have h9 : K[i] = (G, ex) := by
                    have : K[i] = (strip L4)[i]'(by rw [HS4.out]; exact hiK) := by simp [HS4.out]
                    rw [this, hG, hex]; simp [strip]
                  rw [h8, h9, hz]
                obtain rfl : k8 = i := HK8.out
                have HOWN : Hid (wr.ownsRow w4.heap.size 36 2 (.slice a8 k8 c8) k8 (flatF Lo)) := by
                  have := HO.out.own; rw [HLo.out] at this; exact this
                obtain ⟨_, _, hv8, hc8, hc9, _⟩ := own_form HOWN.out
                injection hv8 with hv7 _ hv8
                subst hv7 hv8
                have hown1 : (Value.slice a8 k8 c8).ownBlock ≠ some b := fun e => by have := HO.out.own.lt b e; omega
                have hsz := HO.out.below.size
                have hin1 : (k8 : Int) < (n4 : Int) := by omega
                have HSM2 : Hid (G.length ≤ 100000 ∧ ∀ y ∈ G, y ≤ 100000) := ⟨by omega, fun y hy => by have := HGP.out.red y hy; omega⟩
                clear hf hG hex hGK hks hz
                go_wp2_with (fail)
                go_region_held3 (fun w' => w'.cell? ⟨b, k8 * 2, none⟩ = some (.slice x G.length c) ∧ w'.cell? ⟨b, k8 * 2 + 1, none⟩ = some (.int .i64 (ex : Int)))
                  (first | go_keep | (
                    have hS : (wr.alloc (Obj.cells #[Value.slice x G.length c, Value.int .i64 z] 36)).drew.cell? ⟨b, k8 * 2, none⟩ = some (.slice x G.length c) ∧ (wr.alloc (Obj.cells #[Value.slice x G.length c, Value.int .i64 z] 36)).drew.cell? ⟨b, k8 * 2 + 1, none⟩ = some (.int .i64 (ex : Int)) := by assumption
                    exact ⟨by rw [hgrow.cell_far _ (by simp; omega) (Ne.symm hown1)]; exact hS.1, by rw [hgrow.cell_far _ (by simp; omega) (Ne.symm hown1)]; exact hS.2⟩))
                  ((refine step_append_lies _ (by rfl) _ _ _ (by rfl) w4.heap.size 36 j0 (.agg #[.slice none 0 0, .int .i64 0]) 2 32 Tryz.underlying24 hj0 hx0 hx1 hx2 rfl (by omega) (.slice a8 k8 c8) k8 (flatF Lo) (by rfl) ((HOWN.out.alloc _).drew) ⟨wr.heap.size, 0, none⟩ 1 1 [.slice x G.length c, .int .i64 (z : Int)] (by rfl) (by rfl) (World.news_of_block (cs := #[.slice x G.length c, .int .i64 (z : Int)]) (t := 36) (fr := (0, 0)) (heap_alloc_new wr _)) (by simp [Value.oneCell']) (by omega) (by unfold maxLen; omega) (by omega) (by have := HO.out.below.size; simp; omega) (wr.heap.size + 1) (by simp) ?_; intro gg cap w5 hown5 hgrow hat hlt5))
                have HO5 : Hid (FcR w4 w5 (.slice (some ⟨gg, 0, none⟩) (k8 + 1) cap) (Lo ++ [(.slice x G.length c, G, z)])) := by
                  refine HO.out.append (((Below.refl _ _).alloc (Nat.le_refl _) _).drew) HGR.out ?_ hgrow
                  rw [HLo.out]; exact hown5
                have HLo5 : Hid ((Lo ++ [((.slice x G.length c : Value), G, z)]).length = k8 + 1) := by show _ = _; rw [List.length_append, HLo.out]; rfl
                have HSo5 : Hid (strip (Lo ++ [((.slice x G.length c : Value), G, z)]) = L.take (k8 + 1)) := by show _ = _; rw [HTK2.out, ← HSo.out]; simp [strip]
                clear hown5 hgrow
                go_wp2_with (fail)
                go_roundw
                case rel => exact ⟨k8 + 1, k8 + 1, cap, _, _, rfl, by go_num, by omega, by omega, HLo5, rfl, HO5, HSo5⟩
                case measure => simp [intOf]; omega
              · obtain rfl : n4 = i := by omega
                have HEND : Hid (RdFac wr (.slice a8 k8 c8) Lo ∧ strip Lo = L ∧ Below w.heap.size w wr) :=
                  ⟨HO.out.fac, by rw [HSo.out]; exact List.take_of_length_le (by rw [HLL.out]; omega), HB4.out.trans (HO.out.below.mono HB4.out.size)⟩
                clear hin
                go_wp2_with (fail)
                go_ret
                exact ⟨⟨_, Lo, rfl, HEND.out.1, HEND.out.2.1⟩, HEND.out.2.2⟩
      · obtain ⟨lst, f', t1, t2, t3, t4, ⟨k, hk, ek⟩, K, hK, eL⟩ := Q.rFac_free hP.out hF.out mF.out hn.out hi.out he.out h1F (by rw [← hDe]; exact hd0) hD.out
        rw [← hDe] at t1
        obtain ⟨G, hG⟩ : ∃ G, G = Q.gcdP p F D := ⟨_, rfl⟩
        have hGI := Q.gcdP_is hP.out hF.out HDP.out
        rw [← hG] at hGI t1
        have HGP := Lib.hid hGI.pol
        have hG0 : G.length ≠ 0 := (hGI.left.len hP.out hGI.pol hF.out mF.out.1).2
        have hGl : G.length ≤ 900 := by have := (hGI.left.len hP.out hGI.pol hF.out mF.out.1).1; have := HM.out; omega
        obtain ⟨f0, hf0⟩ : ∃ f0, f0 = (Q.divP p F G).1 := ⟨_, rfl⟩
        rw [← hf0] at t1
        have hDI := Q.div_is hP.out hF.out hGI.pol hG0
        have HF0P : Hid (Q.Pol p f0) := by rw [hf0]; exact hDI.qpol
        have hf0l : f0.length ≤ 900 := by rw [hf0, hDI.qlen]; have := HM.out; omega
        obtain ⟨ps, hps⟩ : ∃ ps, ps = Q.rSplit p f0 := ⟨_, rfl⟩
        rw [← hps] at t1
        have HPO : Hid (Q.PartsOk p 900 ps) := fun M hM' => by
          rw [hps] at hM'
          have h9 := Q.rSplit_ok hP.out HF0P.out M hM'
          exact ⟨h9.1, h9.2.1, by omega⟩
        have hlen : L.length = lst.length + K.length := by rw [eL, Q.foldl_insR_len, List.length_append]; simp
        obtain ⟨np, hnp⟩ : ∃ np, np = ps.length := ⟨_, rfl⟩
        have HLST : Hid (lst.length = np) := by show _ = _; rw [hnp]; exact Q.takeAll_len 1 ps F lst f' t1
        have hnpl : np ≤ 900 := by have := HLST.out; omega
        have hKl : K.length + np ≤ 900 := by have := HLST.out; omega
        have HNP := Lib.hid hnp
        have hf'l : f'.length ≤ 900 := by
          obtain ⟨l9, f9, q1, _, _, q4⟩ := Q.takeAll_some hP.out 1 ps F (fun M hM' => ⟨(HPO.out M hM').1, (HPO.out M hM').2.1⟩) hF.out mF.out.1
          rw [t1] at q1
          injection q1 with q1
          injection q1 with _ q1
          subst q1
          omega
        have hFK : Q.FacL p f' K k := Q.rFac_facL hP.out t2 t3 t4 hk ek hK
        have HKS : Hid (∀ x ∈ K, x.2 ≤ 900 ∧ x.1.length ≤ 900 ∧ Q.Pol p x.1) := fun x hx => by
          obtain ⟨i, hi', rfl⟩ := List.getElem_of_mem hx
          have h9 := hFK.small hP.out t2 t3.1 i hi'
          exact ⟨by omega, by omega, (hFK.mem _ hx).1.irr.pol⟩
        have HT1 : Hid (Q.takeAll p 1 (ps.drop 0) F = some (lst.drop 0, f')) := t1
        have HP2 := Lib.hid t2
        have HM3 := Lib.hid t3
        have HL4 := Lib.hid t4
        have HKI := Lib.hid hk
        have HKE := Lib.hid ek
        have HKD := Lib.hid hK
        have HEL := Lib.hid eL
        have HGE := Lib.hid hG
        have HFE := Lib.hid hf0
        have HPS := Lib.hid hps
        have hd0' : ((D.length : Int) == 0) = false := by rw [beq_eq_false_iff_ne]; omega
        have hF0 : F.length ≠ 0 := mF.out.1
        have hFl : F.length ≤ 900 := by have := HM.out; omega
        clear t1 t2 t3 t4 hk ek hK eL hG hGI hf0 hDI hps hnp hlen hFK hDe hd0 h1F hi he hn hD mF HFL
        go_enter Tryz.func11, Tryz.ntmps11
        go_wp2_with (fail)
        refine (rDeriv_is p F _ _ hp hp2 (by rw [HM.out] at HR ⊢; exact HR) HFR (by have := HM.out; omega)).mono ?_
        rintro e w1 ⟨⟨v1, rfl, hN1⟩, hB1⟩
        rw [← HDE.out] at hN1
        obtain ⟨a1, c1, hv1⟩ := hN1.rd.shape
        subst hv1
        have HB1 := Lib.hid hB1
        have HD1 : Hid (Rd w1 (.slice a1 D.length c1) 1 D.length (nats D)) := hN1.rd
        have HR1 : Hid (Rd w1 (.slice a m cv) 1 F.length (nats F)) := HR.out.below hB1 (Nat.le_refl _)
        clear hN1 hB1
        go_wp2_with (fail)
        refine (rgcd_is p F D _ _ _ hP hp2 HR1 HD1 hF HDP (by omega) (by omega)).mono ?_
        rintro e w2 ⟨⟨v2, rfl, hN2⟩, hB2⟩
        rw [← HGE.out] at hN2
        obtain ⟨a2, c2, hv2⟩ := hN2.rd.shape
        subst hv2
        have HB2 := Lib.hid (HB1.out.trans (hB2.mono HB1.out.size))
        have HG2 : Hid (Rd w2 (.slice a2 G.length c2) 1 G.length (nats G)) := hN2.rd
        have HR2 : Hid (Rd w2 (.slice a m cv) 1 F.length (nats F)) := HR.out.below HB2.out (Nat.le_refl _)
        clear hN2 hB2
        go_wp2_with (fail)
        refine (rDiv_is p F G _ _ _ hP hp2 HR2 HG2 hF HGP (by omega) hG0).mono ?_
        rintro e w3 ⟨⟨v3, u3, rfl, hN3, hN3'⟩, hB3⟩
        rw [← HFE.out] at hN3
        obtain ⟨a3, c3, hv3⟩ := hN3.rd.shape
        subst hv3
        obtain ⟨b3, d3, hu3⟩ := hN3'.rd.shape
        subst hu3
        have HB3 := Lib.hid (HB2.out.trans (hB3.mono HB2.out.size))
        have HQ3 : Hid (Rd w3 (.slice a3 f0.length c3) 1 f0.length (nats f0)) := hN3.rd
        clear hN3 hN3' hB3
        go_wp2_with (fail)
        refine (rsplit_is p f0 _ _ hP hp2 HQ3 HF0P hf0l).mono ?_
        rintro e w4 ⟨⟨v4, rfl, hN4⟩, hB4⟩
        rw [← HPS.out] at hN4
        have HB4 := Lib.hid (HB3.out.trans (hB4.mono HB3.out.size))
        obtain ⟨vs4, hRd4, hRs4⟩ := id hN4
        obtain ⟨a4, c4, hv4⟩ := hRd4.shape
        subst hv4
        have HN4 : Hid (RdN w4 (.slice a4 np c4) ps) := by show RdN _ _ _; rw [HNP.out]; exact hN4
        rw [← HNP.out]
        have HR4 : Hid (Rd w4 (.slice a m cv) 1 F.length (nats F)) := HR.out.below HB4.out (Nat.le_refl _)
        have HBB : Hid (Below w4.heap.size w4 w4) := Below.refl _ _
        have HO4 : Hid (RdFac w4 (.slice none 0 0) []) := RdFac.nil _
        have HRest : Hid (Rd w4 (.slice a F.length cv) 1 F.length (nats F)) := by show Rd _ _ _ _ _; rw [HM.out] at HR4; exact HR4.out
        clear hN4 hRd4 hRs4 hB4
        go_wp2_with (fail)
        go_loopw [14, 15, 16] (fun ov rv iv wx => ∃ (i mo co rl cr : Nat) (ao ar : Option Addr) (Lo : List FacE) (r : List Nat), ov = .slice ao mo co ∧ rv = .slice ar rl cr ∧ iv = .int .i64 i ∧ i ≤ np ∧ rl ≤ 900 ∧ rl ≠ 0 ∧ Hid (mo = i) ∧ Hid (Lo.length = mo) ∧ Hid (rl = r.length) ∧ Hid (RdFac wx (.slice ao mo co) Lo) ∧ Hid (strip Lo = (lst.take i).foldl (fun out x => Q.insR x out) []) ∧ Hid (∀ x ∈ Lo, x.2.1.length ≤ 900) ∧ Hid (Rd wx (.slice ar rl cr) 1 r.length (nats r)) ∧ Hid (Q.Pol p r) ∧ Hid (Q.takeAll p 1 (ps.drop i) r = some (lst.drop i, f')) ∧ Hid (Below w4.heap.size w4 wx)) (fun _ _ iv _ => np - (intOf iv).toNat)
        case atStart => exact ⟨0, 0, 0, m, cv, none, a, [], F, rfl, rfl, rfl, by omega, by omega, hm0, rfl, rfl, HM, HO4, rfl, (fun x hx => by simp at hx), HR4, hF, HT1, HBB⟩
        case round =>
          obtain ⟨i, mo, co, rl, cr, ao, ar, Lo, r, rfl, rfl, rfl, hi2, hrl, hrl0, HMO, HLO, HRL, HO, HSO, HSL, HRr, HPr, HTA, HB⟩ := hrel
          by_cases hin : i < np
          · have hip : i < ps.length := by rw [← HNP.out]; exact hin
            obtain ⟨W, rfl⟩ : ∃ W : World, W = wr := ⟨_, rfl⟩
            obtain ⟨P, hPe⟩ : ∃ P, P = ps.getD i [] := ⟨_, rfl⟩
            have hPm : P ∈ ps := by rw [hPe]; simp [List.getD, hip]
            have hPo := HPO.out P hPm
            have HPP : Hid (Q.Pol p P) := hPo.1
            have hP2 : 2 ≤ P.length := hPo.2.1
            have hPl : P.length ≤ 900 := hPo.2.2
            obtain ⟨bl, cl', aP, cP, hX1⟩ := (HN4.out.below HB.out).at i hip
            rw [← hPe, ← HNP.out] at hX1
            have e0 := hX1.eq
            injection e0 with e0 _ e9
            subst e0 e9
            have x1 := hX1.cell
            have hbl := hX1.lt
            have HPR : Hid (Rd W (.slice aP P.length cP) 1 P.length (nats P)) := hX1.rd
            have hdr : ps.drop i = P :: ps.drop (i + 1) := by rw [List.drop_eq_getElem_cons hip, hPe]; simp [List.getD, hip]
            obtain ⟨ee, r', l1, s1, s2, s3⟩ := Q.take_cons (by rw [← hdr]; exact HTA.out)
            have hr0 : r.length ≠ 0 := by rw [← HRL.out]; exact hrl0
            obtain ⟨ke, r'', u1, u2, u3, u4⟩ := Q.takeOut_some hP.out HPP.out hP2 (r.length + 1) r 0 HPr.out hr0 (by omega)
            have hkr : r'' = r' ∧ 0 + ke = ee := by
              rw [s1] at u1
              injection u1 with u1
              injection u1 with u1 u5
              exact ⟨u5.symm, u1.symm⟩
            obtain ⟨rfl, hke⟩ := hkr
            have hee : ee ≤ 900 := by have := HRL.out; omega
            have HLT : Hid (lst.take (i + 1) = lst.take i ++ [(P, ee)] ∧ lst.drop (i + 1) = l1) := by
              have hil : i < lst.length := by rw [HLST.out]; exact hin
              rw [Nat.mul_one] at s3
              rw [List.drop_eq_getElem_cons hil] at s3
              injection s3 with s3 s4
              exact ⟨by rw [List.take_succ_eq_append_getElem hil, s3], s4⟩
            have HTO : Hid (Q.takeOut p P (r.length + 1) 0 r = some (ee, r'')) := s1
            have HTA2 : Hid (Q.takeAll p 1 (ps.drop (i + 1)) r'' = some (lst.drop (i + 1), f')) := by show _ = _; rw [HLT.out.2]; exact s2
            have HP'' := Lib.hid u2
            have hr''l : r''.length ≤ 900 := by have := HRL.out; omega
            have hin1 : (i : Int) < (np : Int) := by omega
            clear hPe hPm hPo hX1 hdr s1 s2 s3 u1 u2 u4 hke
            go_wp2_with (fail)
            have HA : Hid (Below W.heap.size W (W.alloc (.cells #[.slice aP P.length cP, .int .i64 0] 36))) := (Below.refl _ _).alloc (Nat.le_refl _) _
            have HRr1 : Hid (Rd (W.alloc (.cells #[.slice aP P.length cP, .int .i64 0] 36)) (.slice ar rl cr) 1 r.length (nats r)) := HRr.out.below HA.out (Nat.le_refl _)
            have HPR1 : Hid (Rd (W.alloc (.cells #[.slice aP P.length cP, .int .i64 0] 36)) (.slice aP P.length cP) 1 P.length (nats P)) := HPR.out.below HA.out (Nat.le_refl _)
            have hrl9 : r.length ≤ 100000 := by rw [← HRL.out]; omega
            refine (rDiv_is p r P _ _ _ hP hp2 HRr1 HPR1 HPr HPP hrl9 (by omega)).mono ?_
            rintro e w5 ⟨⟨v5, u5, rfl, hN5, hN5'⟩, hB5⟩
            obtain ⟨a5, c5, hv5⟩ := hN5.rd.shape
            subst hv5
            obtain ⟨b5, d5, hu5⟩ := hN5'.rd.shape
            subst hu5
            obtain ⟨bx, hbx⟩ : ∃ bx, bx = W.heap.size := ⟨_, rfl⟩
            have hX0 : (W.alloc (.cells #[.slice aP P.length cP, .int .i64 0] 36)).cell? ⟨bx, 0, none⟩ = some (.slice aP P.length cP) := by rw [hbx]; simp
            have hX1 : (W.alloc (.cells #[.slice aP P.length cP, .int .i64 0] 36)).cell? ⟨bx, 1, none⟩ = some (.int .i64 ((0 : Nat) : Int)) := by rw [hbx]; simp
            have hXf : (W.alloc (.cells #[.slice aP P.length cP, .int .i64 0] 36)).frozen? ⟨bx, 1, none⟩ = false := by rw [hbx]; simp
            have hbA : bx < (W.alloc (.cells #[.slice aP P.length cP, .int .i64 0] 36)).heap.size := by rw [hbx]; simp
            have k0 := (hB5.cell (p := ⟨bx, 0, none⟩) hbA).trans hX0
            have k1 := (hB5.cell (p := ⟨bx, 1, none⟩) hbA).trans hX1
            have kf := (hB5.frozen (p := ⟨bx, 1, none⟩) hbA).trans hXf
            have hb5 : bx < w5.heap.size := Nat.lt_of_lt_of_le hbA hB5.size
            have HBW : Hid (Below W.heap.size W w5) := HA.out.trans (hB5.mono HA.out.size)
            have HQ0 : Hid (RdX bx w5 (.slice a5 (Q.divP p r P).1.length c5) (Q.divP p r P).1) := RdX.new hN5 hbA
            have HR0 : Hid (RdX bx w5 (.slice ar rl cr) r) := by show RdX _ _ _ _; rw [hbx]; exact RdX.old HRr.out HBW.out
            have HTO2 : Hid (∃ fu, Q.takeOut p P fu 0 r = some (ee, r'')) := ⟨_, HTO.out⟩
            rw [← hbx]
            have HBX := Lib.hid hbx
            clear hN5 hN5' hB5 hX0 hX1 hXf hbA hbx HTO HRr1
            go_wp2_with (fail)
            go_loopw [15, 18, 19] (fun rv qv tv wx => ∃ (ek rl cr cq ct : Nat) (ar aq at' : Option Addr) (s : List Nat), rv = .slice ar rl cr ∧ qv = .slice aq (Q.divP p s P).1.length cq ∧ tv = .slice at' (Q.divP p s P).2.length ct ∧ ek + rl ≤ 900 ∧ rl ≠ 0 ∧ Hid (rl = s.length) ∧ Hid (Q.Pol p s) ∧ Hid (RdX bx wx (.slice ar rl cr) s) ∧ Hid (RdX bx wx (.slice aq (Q.divP p s P).1.length cq) (Q.divP p s P).1) ∧ Hid (∃ fu, Q.takeOut p P fu ek s = some (ee, r'')) ∧ wx.cell? ⟨bx, 0, none⟩ = some (.slice aP P.length cP) ∧ wx.cell? ⟨bx, 1, none⟩ = some (.int .i64 (ek : Int)) ∧ wx.frozen? ⟨bx, 1, none⟩ = false ∧ bx < wx.heap.size ∧ Hid (Below W.heap.size W wx)) (fun rv _ _ _ => lenV rv)
            case atStart => exact ⟨0, rl, cr, c5, d5, ar, a5, b5, r, rfl, rfl, rfl, by omega, hrl0, HRL, HPr, HR0, HQ0, HTO2, k0, k1, kf, hb5, HBW⟩
            case round =>
              obtain ⟨ek, rl, cr, cq, ct, ar, aq, at', s, rfl, rfl, rfl, hek, hrl0, HRL, HPs, HRX, HQX, HTO, k0, k1, kf, hbw, HBW⟩ := hrel
              have hs0 : s.length ≠ 0 := by rw [← HRL.out]; exact hrl0
              have hDI := Q.div_is hP.out HPs.out HPP.out (by omega)
              by_cases ht : (Q.divP p s P).2.length = 0
              · have ht' : (((Q.divP p s P).2.length : Int) == 0) = true := by rw [ht]; rfl
                obtain ⟨S, hS⟩ : ∃ S, S = (Q.divP p s P).1 := ⟨_, rfl⟩
                have HSP : Hid (Q.Pol p S) := by rw [hS]; exact hDI.qpol
                have hSl : S.length < rl := by rw [hS, hDI.qlen, HRL.out]; omega
                have HSP2 : Hid (∃ fu, Q.takeOut p P fu (ek + 1) S = some (ee, r'')) := by
                  obtain ⟨fu, h9⟩ := HTO.out
                  cases fu with
                  | zero => cases h9
                  | succ fu => rw [Q.takeOut_step ht, ← hS] at h9; exact ⟨fu, h9⟩
                have hS0 : S.length ≠ 0 := by rw [hS]; exact (Q.quot_len hP.out HPs.out HPP.out hP2 hs0 ht).2.1
                rw [← hS] at HQX ⊢
                have HQS : Hid (RdX bx (wr.setCell ⟨bx, 1, none⟩ (.int .i64 ((ek : Int) + 1))) (.slice aq S.length cq) S) := HQX.out.set _
                have HBS : Hid (Below W.heap.size W (wr.setCell ⟨bx, 1, none⟩ (.int .i64 ((ek : Int) + 1)))) := HBW.out.setCell (by rw [HBX.out]; exact Nat.le_refl _) _
                have HPRS : Hid (Rd (wr.setCell ⟨bx, 1, none⟩ (.int .i64 ((ek : Int) + 1))) (.slice aP P.length cP) 1 P.length (nats P)) := HPR.out.below HBS.out (Nat.le_refl _)
                have kl : (wr.setCell ⟨bx, 1, none⟩ (.int .i64 ((ek : Int) + 1))).cell? ⟨bl, i, none⟩ = some (.slice aP P.length cP) := (HBS.out.cell (p := ⟨bl, i, none⟩) hbl).trans x1
                clear hDI ht hS
                have kk0 : (wr.setCell ⟨bx, 1, none⟩ (.int .i64 ((ek : Int) + 1))).cell? ⟨bx, 0, none⟩ = some (.slice aP P.length cP) := by
                  rw [World.cell?_setCell_other _ _ _ _ (by intro e; injection e with _ e _; cases e)]; exact k0
                have kk1 : (wr.setCell ⟨bx, 1, none⟩ (.int .i64 ((ek : Int) + 1))).cell? ⟨bx, 1, none⟩ = some (.int .i64 (((ek + 1 : Nat)) : Int)) := World.cell?_setCell_same wr _ _ k1
                have kkf : (wr.setCell ⟨bx, 1, none⟩ (.int .i64 ((ek : Int) + 1))).frozen? ⟨bx, 1, none⟩ = false := by simpa using kf
                have kkb : bx < (wr.setCell ⟨bx, 1, none⟩ (.int .i64 ((ek : Int) + 1))).heap.size := by simpa using hbw
                have HK := Lib.hid (And.intro kk0 (And.intro kk1 (And.intro kkf kkb)))
                clear kk0 kk1 kkf kkb
                go_wp2_with (fail)
                refine (rDiv_is p S P _ _ _ hP hp2 (Lib.hid HQS.out.1) HPRS HSP HPP (by omega) (by omega)).mono ?_
                rintro e w6 ⟨⟨v6, u6, rfl, hN6, hN6'⟩, hB6⟩
                obtain ⟨a6, c6, hv6⟩ := hN6.rd.shape
                subst hv6
                obtain ⟨b6, d6, hu6⟩ := hN6'.rd.shape
                subst hu6
                obtain ⟨kk0, kk1, kkf, kkb⟩ := HK.out
                have z0 := (hB6.cell (p := ⟨bx, 0, none⟩) kkb).trans kk0
                have z1 := (hB6.cell (p := ⟨bx, 1, none⟩) kkb).trans kk1
                have zf := (hB6.frozen (p := ⟨bx, 1, none⟩) kkb).trans kkf
                have zb : bx < w6.heap.size := Nat.lt_of_lt_of_le kkb hB6.size
                have HBZ : Hid (Below W.heap.size W w6) := HBS.out.trans (hB6.mono HBS.out.size)
                have HQZ : Hid (RdX bx w6 (.slice a6 (Q.divP p S P).1.length c6) (Q.divP p S P).1) := RdX.new hN6 kkb
                have HRZ : Hid (RdX bx w6 (.slice aq S.length cq) S) := HQS.out.below hB6
                clear hN6 hN6' hB6 kk0 kk1 kkf kkb k0 k1 kf kl HK
                go_wp2_with (fail)
                go_roundw
                case rel => exact ⟨ek + 1, S.length, cq, c6, d6, aq, a6, b6, S, rfl, rfl, rfl, by omega, hS0, rfl, HSP, HRZ, HQZ, HSP2, z0, z1, zf, zb, HBZ⟩
                case measure => simp [lenV]; omega
              · have ht' : (((Q.divP p s P).2.length : Int) == 0) = false := by rw [beq_eq_false_iff_ne]; omega
                have hST : ek = ee ∧ s = r'' := by
                  obtain ⟨fu, h9⟩ := HTO.out
                  cases fu with
                  | zero => cases h9
                  | succ fu =>
                    rw [Q.takeOut_stop ht] at h9
                    injection h9 with h9
                    injection h9 with h9 h10
                    exact ⟨h9, h10⟩
                obtain ⟨rfl, rfl⟩ := hST
                have HLR : Hid (RdFac wr (.slice ao mo co) Lo) := HO.out.below HBW.out
                have HPRw : Hid (Rd wr (.slice aP P.length cP) 1 P.length (nats P)) := HPR.out.below HBW.out (Nat.le_refl _)
                have hLol : Lo.length ≤ 1000 := by have := HLO.out; have := HMO.out; omega
                have HSL2 : Hid (∀ x ∈ Lo, x.2.1.length ≤ 100000) := fun x hx => by have := HSL.out x hx; omega
                have HRs : Hid (Rd wr (.slice ar rl cr) 1 s.length (nats s)) := HRX.out.1
                clear ht hDI
                go_wp2_with (fail)
                refine (rInsert_is Lo aP cP ek P _ _ HLR HPRw hLol HSL2 (by omega)).mono ?_
                rintro e w7 ⟨v7, kq, rfl, hown7, hB7, hI7⟩
                obtain ⟨hF7, hL7⟩ := HLR.out.insert (x := (.slice aP P.length cP, P, ek)) HPRw.out hB7 hown7
                obtain ⟨L7, hL7e⟩ : ∃ L7, L7 = Lo.take kq ++ ((.slice aP P.length cP : Value), P, ek) :: Lo.drop kq := ⟨_, rfl⟩
                have hM7 : ∀ y ∈ L7, y.2.1.length ≤ 900 := fun y hy => by
                  rw [hL7e] at hy
                  rcases mem_insert hy with h9 | h9
                  · exact HSL.out y h9
                  · rw [h9]; exact hPl
                rw [← hL7e] at hF7 hL7 hI7
                obtain ⟨a7, c7, hv7, _⟩ := own_form hown7
                subst hv7
                have hmo : Lo.length = i := by rw [HLO.out, HMO.out]
                rw [hmo] at hF7 hL7 ⊢
                have HF7 := Lib.hid hF7
                have HL7 := Lib.hid hL7
                have HM7 := Lib.hid hM7
                have HB7 : Hid (Below w4.heap.size w4 w7) := HB.out.trans ((HBW.out.trans (hB7.mono HBW.out.size)).mono HB.out.size)
                have HR7 : Hid (Rd w7 (.slice ar rl cr) 1 s.length (nats s)) := HRs.out.below hB7 (Nat.le_refl _)
                have HS7 : Hid (strip L7 = (lst.take (i + 1)).foldl (fun out x => Q.insR x out) []) := by
                  show _ = _
                  rw [HLT.out.1, List.foldl_append, ← HSO.out]
                  exact hI7.symm
                clear hown7 hB7 hI7 hF7 hL7 hL7e hM7 hmo k0 k1 kf
                go_wp2_with (fail)
                go_roundw
                case rel => exact ⟨i + 1, i + 1, c7, rl, cr, a7, ar, L7, s, rfl, rfl, by go_num, by omega, by omega, hrl0, rfl, HL7, HRL, HF7, HS7, HM7, HR7, HPs, HTA2, HB7⟩
                case measure => simp [intOf]; omega
          · obtain rfl : np = i := by omega
            have hrf : r = f' ∧ lst.drop np = [] := by
              have h9 := HTA.out
              rw [List.drop_eq_nil_of_le (by rw [← HNP.out]; omega), Q.takeAll] at h9
              injection h9 with h9
              injection h9 with h9 h10
              exact ⟨h10, h9.symm⟩
            obtain ⟨rfl, hld⟩ := hrf
            have HSO2 : Hid (strip Lo = lst.foldl (fun out x => Q.insR x out) []) := by
              show _ = _
              rw [HSO.out, List.take_of_length_le (by rw [HLST.out]; omega)]
            have HBw : Hid (Below w.heap.size w wr) := HB4.out.trans (HB.out.mono HB4.out.size)
            have hrl9 : r.length ≤ 900 := by rw [← HRL.out]; exact hrl
            obtain ⟨nL, hnL⟩ : ∃ nL, nL = Lo.length := ⟨_, rfl⟩
            have hmo : mo = nL := by rw [hnL, HLO.out]
            subst hmo
            have HNL := Lib.hid hnL
            clear hld HTA hnL hin
            go_wp2_with (fail)
            refine (IH.out r k K _ _ HRr HP2 HM3 HL4 hrl9 HKI HKE HKD).mono ?_
            rintro e w6 ⟨⟨v6, L6, rfl, hF6, hS6⟩, hB6⟩
            obtain ⟨a6, c6, hv6, hc66⟩ := hF6.shape
            subst hv6
            have h6K := hF6.slen hS6
            obtain ⟨n6, hn6⟩ : ∃ n6, n6 = L6.length := ⟨_, rfl⟩
            have HF6 : Hid (RdFac w6 (.slice a6 n6 c6) L6) := by show RdFac _ _ _; rw [hn6]; exact hF6
            have HN6 := Lib.hid hn6
            have HS6 := Lib.hid hS6
            have hn6l : n6 + np ≤ 900 := by rw [hn6, h6K]; omega
            have HO6 : Hid (RdFac w6 (.slice ao mo co) Lo) := HO.out.below hB6
            have HB6 : Hid (Below w.heap.size w w6) := HBw.out.trans (hB6.mono HBw.out.size)
            have HBz : Hid (Below w6.heap.size w6 w6) := Below.refl _ _
            have HSO3 : Hid (strip Lo = (lst ++ K.take 0).foldl (fun out x => Q.insR x out) []) := by show _ = _; rw [List.take_zero, List.append_nil]; exact HSO2.out
            rw [← hn6] at hc66 ⊢
            clear hF6 hS6 hB6 hn6 h6K
            go_wp2_with (fail)
            go_loopw [14, 21] (fun ov jv wx => ∃ (j mo co : Nat) (ao : Option Addr) (Lo : List FacE), ov = .slice ao mo co ∧ jv = .int .i64 j ∧ j ≤ n6 ∧ mo ≤ np + j ∧ Hid (mo = Lo.length) ∧ Hid (RdFac wx (.slice ao mo co) Lo) ∧ Hid (∀ x ∈ Lo, x.2.1.length ≤ 900) ∧ Hid (strip Lo = (lst ++ K.take j).foldl (fun out x => Q.insR x out) []) ∧ Hid (Below w6.heap.size w6 wx)) (fun _ jv _ => n6 - (intOf jv).toNat)
            case atStart => exact ⟨0, mo, co, ao, Lo, rfl, rfl, by omega, by have := HMO.out; omega, HNL, HO6, HSL, HSO3, HBz⟩
            case round =>
              obtain ⟨j, mo, co, ao, Lo, rfl, rfl, hj, hmo, HMO, HO, HSL, HSO, HBj⟩ := hrel
              by_cases hjn : j < n6
              · have hj6 : j < L6.length := by rw [← HN6.out]; exact hjn
                obtain ⟨b, x, c, hf⟩ := HF6.out.at j hj6
                have hfe := hf.eq
                subst hfe
                have hbl := hf.lt
                have d0 := (HBj.out.cell (p := ⟨b, j * 2, none⟩) hbl).trans hf.c0
                have d1 := (HBj.out.cell (p := ⟨b, j * 2 + 1, none⟩) hbl).trans hf.c1
                obtain ⟨P, hP⟩ : ∃ P, P = L6[j].2.1 := ⟨_, rfl⟩
                obtain ⟨ex, hex⟩ : ∃ ex, ex = L6[j].2.2 := ⟨_, rfl⟩
                rw [← hP] at d0
                rw [← hex] at d1
                have hjK : j < K.length := by rw [← HS6.out]; simpa [strip] using hj6
                have hKj : K[j] = (P, ex) := by
                  have : K[j] = (strip L6)[j]'(by rw [HS6.out]; exact hjK) := by simp [HS6.out]
                  rw [this, hP, hex]; simp [strip]
                have hks := HKS.out (P, ex) (by rw [← hKj]; exact List.getElem_mem hjK)
                have hPl : P.length ≤ 900 := hks.2.1
                have HPRw : Hid (Rd wr (.slice x P.length c) 1 P.length (nats P)) := by
                  have := hf.rd
                  rw [← hP] at this; exact this.below HBj.out (Nat.le_refl _)
                have HKT : Hid (K.take (j + 1) = K.take j ++ [(P, ex)]) := by show _ = _; rw [List.take_succ_eq_append_getElem hjK, hKj]
                have hLol : Lo.length ≤ 1000 := by rw [← HMO.out]; omega
                have HSL2 : Hid (∀ x ∈ Lo, x.2.1.length ≤ 100000) := fun x hx => by have := HSL.out x hx; omega
                have hjn1 : (j : Int) < (n6 : Int) := by omega
                clear hf hP hex hKj hks
                go_wp2_with (fail)
                refine (rInsert_is Lo x c ex P _ _ HO HPRw hLol HSL2 (by omega)).mono ?_
                rintro e w7 ⟨v7, kq, rfl, hown7, hB7, hI7⟩
                obtain ⟨hF7, hL7⟩ := HO.out.insert (x := (.slice x P.length c, P, ex)) HPRw.out hB7 hown7
                obtain ⟨L7, hL7e⟩ : ∃ L7, L7 = Lo.take kq ++ ((.slice x P.length c : Value), P, ex) :: Lo.drop kq := ⟨_, rfl⟩
                have hM7 : ∀ y ∈ L7, y.2.1.length ≤ 900 := fun y hy => by
                  rw [hL7e] at hy
                  rcases mem_insert hy with h9 | h9
                  · exact HSL.out y h9
                  · rw [h9]; exact hPl
                rw [← hL7e] at hF7 hL7 hI7
                obtain ⟨a7, c7, hv7, _⟩ := own_form hown7
                subst hv7
                rw [← HMO.out] at hF7 hL7 ⊢
                have HF7 := Lib.hid hF7
                have HL7 : Hid (mo + 1 = L7.length) := hL7.symm
                have HM7 := Lib.hid hM7
                have HB7 : Hid (Below w6.heap.size w6 w7) := HBj.out.trans (hB7.mono HBj.out.size)
                have HS7 : Hid (strip L7 = (lst ++ K.take (j + 1)).foldl (fun out x => Q.insR x out) []) := by
                  show _ = _
                  rw [HKT.out, ← List.append_assoc, List.foldl_append, ← HSO.out]
                  exact hI7.symm
                clear hown7 hB7 hI7 hF7 hL7 hL7e hM7 d0 d1
                go_wp2_with (fail)
                go_roundw
                case rel => exact ⟨j + 1, mo + 1, c7, a7, L7, rfl, by go_num, by omega, by omega, HL7, HF7, HM7, HS7, HB7⟩
                case measure => simp [intOf]; omega
              · obtain rfl : n6 = j := by omega
                have HEND : Hid (RdFac wr (.slice ao mo co) Lo ∧ strip Lo = L ∧ Below w.heap.size w wr) :=
                  ⟨HO.out, by rw [HSO.out, HEL.out, List.take_of_length_le (by rw [← HS6.out]; simp [strip]; have := HN6.out; omega)], HB6.out.trans (HBj.out.mono HB6.out.size)⟩
                clear hjn
                go_wp2_with (fail)
                go_ret
                exact ⟨⟨_, Lo, rfl, HEND.out.1, HEND.out.2.1⟩, HEND.out.2.2⟩

end Go.Proofs.YtbehihanhfmmhaaGreat
