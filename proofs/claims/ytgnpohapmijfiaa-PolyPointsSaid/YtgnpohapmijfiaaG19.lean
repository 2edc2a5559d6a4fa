/- Walks and plain mathematics: Rab, Fst, RefI, Fnm. -/
import Derived.Test.YtgnpohapmijfiaaG15
import Derived.Test.YtgnpohapmijfiaaG17
import Derived.Test.YtgnpohapmijfiaaG14
import Derived.Test.YtgnpohapmijfiaaG12
import Derived.Test.YtgnpohapmijfiaaG10
namespace Go.Proofs.Ytgnpohapmijfiaa
namespace Q
variable {p : Nat}

theorem perm_of_sub {α : Type} [DecidableEq α] {l1 : List α} : ∀ {l2 : List α}, l1.Nodup → (∀ x ∈ l1, x ∈ l2) → l2.length ≤ l1.length → l1.Perm l2 := by
  induction l1 with
  | nil => intro l2 _ _ hl; have : l2 = [] := List.eq_nil_of_length_eq_zero (by simpa using hl); subst this; exact List.Perm.refl _
  | cons a l ih =>
    intro l2 h1 hs hl
    have ha : a ∈ l2 := hs a (by simp)
    have hp := List.perm_cons_erase ha
    refine List.Perm.trans (List.Perm.cons a (ih (List.nodup_cons.1 h1).2 ?_ ?_)) hp.symm
    · intro x hx
      have hxa : x ≠ a := fun e => (List.nodup_cons.1 h1).1 (e ▸ hx)
      exact (List.mem_erase_of_ne hxa).2 (hs x (by simp [hx]))
    · rw [List.length_erase_of_mem ha]; simp at hl; omega

/-! ### The residues modulo an irreducible polynomial -/
def resid (p d : Nat) : List (List Nat) := (tuples p d).map trim
theorem trim_inj {f g : List Nat} (hl : f.length = g.length) (h : trim f = trim g) : f = g :=
  ext_getD hl fun i _ => by rw [← trim_getD f, ← trim_getD g, h]
theorem resid_nodup (d : Nat) : (resid p d).Nodup := by
  unfold resid List.Nodup
  rw [List.pairwise_map]
  refine List.Pairwise.imp_of_mem ?_ (tuples_nodup (p := p) d)
  intro a b ha hb hab e
  exact hab (trim_inj (((mem_tuples d a).1 ha).1.trans ((mem_tuples d b).1 hb).1.symm) e)
theorem resid_len (d : Nat) : (resid p d).length = p ^ d := by rw [resid, List.length_map, tuples_len]
theorem mem_resid (hp : 0 < p) (d : Nat) (f : List Nat) : f ∈ resid p d ↔ Pol p f ∧ f.length ≤ d := by
  constructor
  · intro h
    obtain ⟨t, ht, rfl⟩ := List.mem_map.1 h
    have h1 := (mem_tuples d t).1 ht
    exact ⟨Red.trim (fun x hx => h1.2 x hx), by rw [trim_length, ← h1.1]; exact trimLen_le t⟩
  · rintro ⟨hf, hl⟩
    refine List.mem_map.2 ⟨f ++ List.replicate (d - f.length) 0, (mem_tuples d _).2 ⟨by simp; omega, fun x hx => ?_⟩, ?_⟩
    · rcases List.mem_append.1 hx with h | h
      · exact hf.red x h
      · rw [(List.mem_replicate.1 h).2]; exact hp
    · have hr : Red p (f ++ List.replicate (d - f.length) 0) := fun x hx => by
        rcases List.mem_append.1 hx with h | h
        · exact hf.red x h
        · rw [(List.mem_replicate.1 h).2]; exact hp
      refine hr.trim.ext hf fun i => ?_
      rw [trim_getD]
      by_cases hi : i < f.length
      · simp [List.getD, List.getElem?_append_left hi]
      · rw [getD_out (f := f) (by omega), List.getD_eq_getElem?_getD, List.getElem?_append_right (by omega)]
        simp only [List.getElem?_replicate]
        split <;> rfl

/-- Fermat's theorem for the residues. -/
theorem fermat_ne (hP : M.Pr p) {g h : List Nat} (hg : Irr p g) (hh : Pol p h) (hn : ¬ Dv p g h) : Cg p g (pw (ev p h) (p ^ (g.length - 1) - 1)) 1 := by
  have hp2 := hP.1
  have hp : 0 < p := by omega
  have h2 := hg.two
  obtain ⟨d, hd⟩ : ∃ d, d = g.length - 1 := ⟨_, rfl⟩
  obtain ⟨N, hN⟩ : ∃ N, N = (resid p d).filter fun x => x != [] := ⟨_, rfl⟩
  have hmem : ∀ x, x ∈ N ↔ (Pol p x ∧ x.length < g.length ∧ x ≠ []) := fun x => by
    rw [hN, List.mem_filter, mem_resid hp]
    simp only [bne_iff_ne, ne_eq]
    constructor
    · rintro ⟨⟨h1, h3⟩, h4⟩; exact ⟨h1, by omega, h4⟩
    · rintro ⟨h1, h3, h4⟩; exact ⟨⟨h1, by omega⟩, h4⟩
  have hNn : N.Nodup := by rw [hN]; exact List.Pairwise.filter _ (resid_nodup d)
  have hNl : N.length = p ^ d - 1 := by
    have h1 : (resid p d).length = N.length + ((resid p d).filter fun x => !(x != [])).length := by
      rw [hN, ← List.length_append]
      exact (List.filter_append_perm _ _).length_eq.symm
    have h3 : ((resid p d).filter fun x => !(x != [])).Perm [[]] := by
      refine perm_of_sub (List.Pairwise.filter _ (resid_nodup d)) (fun x hx => by have := (List.mem_filter.1 hx).2; simp at this; simp [this]) ?_
      refine List.length_pos_of_mem (a := []) ?_
      exact List.mem_filter.2 ⟨(mem_resid hp d []).2 ⟨Pol.nil p, by simp⟩, by simp⟩
    rw [h3.length_eq, resid_len] at h1
    simp at h1; omega
  have hdvn : ∀ x ∈ N, ¬ Dv p g x := fun x hx hdv => by
    obtain ⟨h1, h3, h4⟩ := (hmem x).1 hx
    have := (hdv.len hP hg.pol h1 (fun h0 => h4 (List.eq_nil_of_length_eq_zero h0))).1
    omega
  -- multiplication by h permutes them
  have hmul : ∀ x, Pol p x → Cg p g (ev p h * ev p x) (ev p (remP p (prodP' p h x) g)) := fun x hx => by
    have := rem_cg hP (pol_prod hP hh hx) hg.pol (by omega)
    rwa [ev_prod] at this
  have hmap : ∀ x ∈ N, remP p (prodP' p h x) g ∈ N := fun x hx => by
    obtain ⟨h1, h3, h4⟩ := (hmem x).1 hx
    have D := div_is hP (pol_prod hP hh h1) hg.pol (by omega)
    refine (hmem _).2 ⟨D.rpol, D.rlen, fun h0 => ?_⟩
    have h5 := (rem_nil_iff hP (pol_prod hP hh h1) hg.pol (by omega)).1 h0
    rcases hg.prime hP hh h1 h5 with h6 | h6
    · exact hn h6
    · exact hdvn x hx h6
  have hinj : ∀ x ∈ N, ∀ y ∈ N, remP p (prodP' p h x) g = remP p (prodP' p h y) g → x = y := fun x hx y hy e => by
    obtain ⟨x1, x2, x3⟩ := (hmem x).1 hx
    obtain ⟨y1, y2, y3⟩ := (hmem y).1 hy
    have c := (hmul x x1).trans hp ((e ▸ Cg.refl _ : Cg p g (ev p (remP p (prodP' p h x) g)) (ev p (remP p (prodP' p h y) g))).trans hp ((hmul y y1).symm hp))
    unfold Cg at c
    rw [← Px.mul_sub] at c
    rcases hg.primeX hP (IsP.ev hh) ((IsP.ev x1).sub hp (IsP.ev y1)) c with h5 | h5
    · exact absurd (dx_iff.1 h5) hn
    · exact low_cg hP x1 y1 hg.pol x2 y2 h5
  have hperm : (N.map fun x => remP p (prodP' p h x) g).Perm N := by
    refine perm_of_sub ?_ (fun x hx => by obtain ⟨y, hy, rfl⟩ := List.mem_map.1 hx; exact hmap y hy) (by simp)
    unfold List.Nodup
    rw [List.pairwise_map]
    refine List.Pairwise.imp_of_mem ?_ hNn
    intro a b ha hb hab e
    exact hab (hinj a ha b hb e)
  have hpr : ∀ K : List (List Nat), (∀ x ∈ K, Pol p x) → Cg p g (pw (ev p h) K.length * ev p (prodL p K)) (ev p (prodL p (K.map fun x => remP p (prodP' p h x) g))) := by
    intro K hK
    induction K with
    | nil => rw [List.length_nil, pw_zero, Px.one_mul]; exact Cg.refl _
    | cons x K ih =>
      have hx := hK x (by simp)
      have hKp : ∀ y ∈ K, Pol p y := fun y hy => hK y (by simp [hy])
      have D := div_is hP (pol_prod hP hh hx) hg.pol (by omega)
      rw [List.map_cons, ev_prodL_cons, ev_prodL_cons, List.length_cons, pw_succ]
      have c := Cg.mul hP (((IsP.ev hh).pw hP K.length).mul hP (IsP.ev (prodL_pol hP hKp))) (IsP.ev D.rpol) (hmul x hx) (ih hKp)
      rwa [show pw (ev p h) K.length * ev p h * (ev p x * ev p (prodL p K)) = ev p h * ev p x * (pw (ev p h) K.length * ev p (prodL p K)) by ac_rfl]
  have hNp : ∀ x ∈ N, Pol p x := fun x hx => ((hmem x).1 hx).1
  have c := hpr N hNp
  rw [ev_prodL_perm hperm, hNl, hd] at c
  unfold Cg at c ⊢
  have e : pw (ev p h) (p ^ (g.length - 1) - 1) * ev p (prodL p N) - ev p (prodL p N) = (pw (ev p h) (p ^ (g.length - 1) - 1) - 1) * ev p (prodL p N) := by rw [Px.sub_mul, Px.one_mul]
  rw [e] at c
  rcases hg.primeX hP (((IsP.ev hh).pw hP _).sub hp (IsP.one hP)) (IsP.ev (prodL_pol hP hNp)) c with h3 | h3
  · exact h3
  · obtain ⟨x, hx, h4⟩ := hg.dv_prodL hP hNp (dx_iff.1 h3)
    exact absurd h4 (hdvn x hx)

theorem fermat (hP : M.Pr p) {g h : List Nat} (hg : Irr p g) (hh : Pol p h) : Cg p g (pw (ev p h) (p ^ (g.length - 1))) (ev p h) := by
  have hp : 0 < p := by have := hP.1; omega
  have hpos : 0 < p ^ (g.length - 1) := Nat.pow_pos hp
  obtain ⟨m, hm⟩ : ∃ m, p ^ (g.length - 1) = m + 1 := ⟨p ^ (g.length - 1) - 1, by omega⟩
  by_cases hd : Dv p g h
  · have h1 := dx_iff.2 hd
    have h2 : DX p g (pw (ev p h) (p ^ (g.length - 1))) := by rw [hm, pw_succ]; exact DX.mul hP ((IsP.ev hh).pw hP m) h1
    exact h2.sub hp h1
  · have c := fermat_ne hP hg hh hd
    rw [hm, Nat.add_sub_cancel] at c
    rw [hm, pw_succ]
    have := Cg.mul hP (IsP.ev hh) (IsP.one hP) c (Cg.refl (ev p h))
    rwa [Px.one_mul] at this

/-! ### How many roots -/
def hX (u : Px p) : List (Px p) → Px p
  | [] => 0
  | c :: C => c + u * hX u C
def qX (a : Px p) : List (Px p) → List (Px p)
  | [] => []
  | [_] => []
  | _ :: c' :: C => hX a (c' :: C) :: qX a (c' :: C)
theorem hX_isP (hP : M.Pr p) {u : Px p} (hu : IsP p u) : ∀ {C : List (Px p)}, (∀ c ∈ C, IsP p c) → IsP p (hX u C)
  | [], _ => IsP.zero
  | c :: C, h => (h c (by simp)).add (by have := hP.1; omega) (hu.mul hP (hX_isP hP hu fun x hx => h x (by simp [hx])))
theorem qX_isP (hP : M.Pr p) {a : Px p} (ha : IsP p a) : ∀ {C : List (Px p)}, (∀ c ∈ C, IsP p c) → ∀ c ∈ qX a C, IsP p c
  | [], _, c, hc => by simp [qX] at hc
  | [_], _, c, hc => by simp [qX] at hc
  | x :: c' :: C, h, c, hc => by
    rw [qX] at hc
    have h1 : ∀ y ∈ c' :: C, IsP p y := fun y hy => h y (by simp only [List.mem_cons] at hy ⊢; exact .inr hy)
    rcases List.mem_cons.1 hc with rfl | hc
    · exact hX_isP hP ha h1
    · exact qX_isP hP ha h1 c hc
theorem qX_len (a : Px p) : ∀ C : List (Px p), (qX a C).length = C.length - 1
  | [] => rfl
  | [_] => rfl
  | x :: c' :: C => by rw [qX, List.length_cons, qX_len a (c' :: C)]; simp
theorem qX_last (a : Px p) : ∀ C : List (Px p), 2 ≤ C.length → (qX a C).getLast? = C.getLast?
  | [], h => by simp at h
  | [_], h => by simp at h
  | [x, c'], _ => by simp [qX, hX, Px.mul_zero, Px.add_zero]
  | x :: c' :: c2 :: C, _ => by
    have ih := qX_last a (c' :: c2 :: C) (by simp)
    rw [qX, List.getLast?_cons_cons, ← ih, qX, List.getLast?_cons_cons]
theorem hX_qX (a u : Px p) : ∀ C : List (Px p), hX u C - hX a C = (u - a) * hX u (qX a C)
  | [] => by rw [hX, hX, qX, hX, Px.sub_self, Px.mul_zero]
  | [c] => by rw [hX, hX, hX, hX, qX, hX, Px.mul_zero, Px.mul_zero, Px.sub_self, Px.mul_zero]
  | c :: c' :: C => by
    have ih := hX_qX a u (c' :: C)
    have e1 : hX u (c' :: C) = hX a (c' :: C) + (u - a) * hX u (qX a (c' :: C)) := by rw [← ih, Px.add_comm, sub_add]
    obtain ⟨A, hA⟩ : ∃ A, A = hX a (c' :: C) := ⟨_, rfl⟩
    obtain ⟨B, hB⟩ : ∃ B, B = hX u (qX a (c' :: C)) := ⟨_, rfl⟩
    have e2 : hX u (c :: c' :: C) = c + u * hX u (c' :: C) := rfl
    have e3 : hX a (c :: c' :: C) = c + a * hX a (c' :: C) := rfl
    have e4 : hX u (qX a (c :: c' :: C)) = hX a (c' :: C) + u * hX u (qX a (c' :: C)) := rfl
    rw [e2, e3, e4, e1, ← hA, ← hB, add_sub_add, Px.sub_self, Px.zero_add]
    simp only [Px.sub_def, Px.mul_add, Px.add_mul, Px.neg_mul, Px.mul_neg]
    have e5 : u * A + (u * (u * B) + -(u * (a * B))) + -(a * A) = u * A + -(a * A) + (u * (u * B) + -(u * (a * B))) := by ac_rfl
    have e6 : a * (u * B) = u * (a * B) := by ac_rfl
    rw [e5, e6]

theorem root_count (hP : M.Pr p) {g : List Nat} (hg : Irr p g) : ∀ (n : Nat) (C : List (Px p)), C.length = n + 1 → C.getLast? = some 1 → (∀ c ∈ C, IsP p c) → ∀ R : List (List Nat), (∀ r ∈ R, Pol p r) → R.Pairwise (fun a b => ¬ Cg p g (ev p a) (ev p b)) → (∀ r ∈ R, DX p g (hX (ev p r) C)) → R.length ≤ n
  | _, _, _, _, _, [], _, _, _ => by simp
  | 0, C, hl, hlast, hC, r :: R, hR, hpw, hz => by
    exfalso
    match C, hl with
    | [c], _ =>
      simp at hlast
      have := hz r (by simp)
      rw [hlast, hX, hX, Px.mul_zero, Px.add_zero] at this
      exact hg.notOne hP this
  | n + 1, C, hl, hlast, hC, r :: R, hR, hpw, hz => by
    have hp : 0 < p := by have := hP.1; omega
    have hr := hR r (by simp)
    have hpw1 := List.pairwise_cons.1 hpw
    have ih := root_count hP hg n (qX (ev p r) C) (by rw [qX_len, hl]; rfl) (by rw [qX_last _ _ (by omega)]; exact hlast) (qX_isP hP (IsP.ev hr) hC) R (fun x hx => hR x (by simp [hx])) hpw1.2 fun s hs => by
      have h1 := (hz s (by simp [hs])).sub hp (hz r (by simp))
      rw [hX_qX] at h1
      have hsp := hR s (by simp [hs])
      rcases hg.primeX hP ((IsP.ev hsp).sub hp (IsP.ev hr)) (hX_isP hP (IsP.ev hsp) (qX_isP hP (IsP.ev hr) hC)) h1 with h2 | h2
      · exact absurd (Cg.symm hp h2) (hpw1.1 s hs)
      · exact h2
    simp; omega

theorem hX_rep (u : Px p) : ∀ k, hX u (List.replicate k 0 ++ [1]) = pw u k
  | 0 => by show (1 : Px p) + u * 0 = 1; rw [Px.mul_zero, Px.add_zero]
  | k + 1 => by
    rw [List.replicate_succ, List.cons_append]
    show (0 : Px p) + u * hX u (List.replicate k 0 ++ [1]) = pw u (k + 1)
    rw [hX_rep u k, Px.zero_add, pw_succ, Px.mul_comm]

theorem frob_iter (hP : M.Pr p) (u : Px p) (h : List Nat) : ∀ m, pw (hor u h) (p ^ m) = hor (pw u (p ^ m)) h
  | 0 => by rw [Nat.pow_zero, pw_one, pw_one]
  | m + 1 => by rw [Nat.pow_succ, ← pw_pw, frob_iter hP u h m, frob_hor hP, pw_pw]
theorem hor_isP (hP : M.Pr p) {u : Px p} (hu : IsP p u) : ∀ h : List Nat, IsP p (hor u h)
  | [] => IsP.zero
  | c :: h => (IsP.const (by have := hP.1; omega) c).add (by have := hP.1; omega) (hu.mul hP (hor_isP hP hu h))
theorem hor_cg (hP : M.Pr p) {g : List Nat} {u v : Px p} (hu : IsP p u) (hv : IsP p v) (c : Cg p g u v) : ∀ h : List Nat, Cg p g (hor u h) (hor v h)
  | [] => Cg.refl _
  | a :: h => (Cg.refl _).add (by have := hP.1; omega) (Cg.mul hP (hor_isP hP hu h) hv c (hor_cg hP hu hv c h))
theorem isP_x (hP : M.Pr p) : IsP p (xX p) := by rw [← ev_xx]; exact IsP.ev (pol_xx hP)

/-- If x is its own p^m-th power, the degree is at most m. -/
theorem deg_le (hP : M.Pr p) {g : List Nat} (hg : Irr p g) {m : Nat} (hm : 1 ≤ m) (c : Cg p g (pw (xX p) (p ^ m)) (xX p)) : g.length - 1 ≤ m := by
  have hp2 := hP.1
  have hp : 0 < p := by omega
  have h2 := hg.two
  have hN : 2 ≤ p ^ m := Nat.le_trans hp2 (by have := Nat.pow_le_pow_right hp hm; rwa [Nat.pow_one] at this)
  obtain ⟨K, hK⟩ : ∃ K, p ^ m = K + 2 := ⟨p ^ m - 2, by omega⟩
  have hx := isP_x hP
  have hall : ∀ h : List Nat, Pol p h → Cg p g (pw (ev p h) (p ^ m)) (ev p h) := fun h _ => by
    rw [← hor_x h, frob_iter hP]
    exact hor_cg hP (hx.pw hP _) hx c h
  have hmem : ∀ r, r ∈ resid p (g.length - 1) → Pol p r ∧ r.length < g.length := fun r hr => by
    have := (mem_resid hp _ r).1 hr; exact ⟨this.1, by omega⟩
  have h := root_count hP hg (p ^ m) ((0 : Px p) :: (-1 : Px p) :: (List.replicate K 0 ++ [1])) (by simp [hK]) (by simp [List.getLast?_cons]) (fun y hy => ?_) (resid p (g.length - 1)) (fun r hr => (hmem r hr).1) ?_ fun r hr => ?_
  · rw [resid_len] at h
    exact (Nat.pow_le_pow_iff_right (by omega)).1 h
  · simp only [List.mem_cons, List.mem_append, List.mem_replicate, List.not_mem_nil, or_false] at hy
    rcases hy with rfl | rfl | ⟨_, rfl⟩ | rfl
    · exact IsP.zero
    · exact (IsP.one hP).neg hp
    · exact IsP.zero
    · exact IsP.one hP
  · refine List.Pairwise.imp_of_mem ?_ (resid_nodup (p := p) (g.length - 1))
    intro a b ha hb hab hc
    have h1 := hmem a ha
    have h3 := hmem b hb
    exact hab (low_cg hP h1.1 h3.1 hg.pol h1.2 h3.2 hc)
  · have e : hX (ev p r) ((0 : Px p) :: (-1 : Px p) :: (List.replicate K 0 ++ [1])) = pw (ev p r) (p ^ m) - ev p r := by
      show (0 : Px p) + ev p r * (-1 + ev p r * hX (ev p r) (List.replicate K 0 ++ [1])) = _
      rw [hX_rep, Px.zero_add, Px.mul_add, Px.mul_neg, Px.mul_one, hK, pw_succ, pw_succ, Px.sub_def, Px.add_comm]
      congr 1; ac_rfl
    rw [e]
    exact hall r (hmem r hr).1

/-- x is its own p^(d k)-th power. -/
theorem x_iter (hP : M.Pr p) {g : List Nat} {d : Nat} (c : Cg p g (pw (xX p) (p ^ d)) (xX p)) : ∀ k, Cg p g (pw (xX p) (p ^ (d * k))) (xX p)
  | 0 => by rw [Nat.mul_zero, Nat.pow_zero, pw_one]; exact Cg.refl _
  | k + 1 => by
    have hp : 0 < p := by have := hP.1; omega
    rw [Nat.mul_succ, Nat.pow_add, ← pw_pw]
    have hx := isP_x hP
    exact (Cg.pw hP (hx.pw hP _) hx (x_iter hP c k) _).trans hp c

/-! ### Rabin's test -/
def yR (p : Nat) (f : List Nat) : Nat → List Nat
  | 0 => [0, 1]
  | k + 1 => raiseLoop p f p [1] (remP p (yR p f k) f) p
theorem yR_is (hP : M.Pr p) {f : List Nat} (hf : Pol p f) (h3 : 3 ≤ f.length) : ∀ k, Pol p (yR p f k) ∧ (yR p f k).length < f.length ∧ Cg p f (ev p (yR p f k)) (pw (xX p) (p ^ k))
  | 0 => ⟨pol_xx hP, by show 2 < _; omega, by rw [Nat.pow_zero, pw_one]; exact Cg.of_eq ev_xx⟩
  | k + 1 => by
    have hp : 0 < p := by have := hP.1; omega
    obtain ⟨i1, i2, i3⟩ := yR_is hP hf h3 k
    have D := div_is hP i1 hf (by omega)
    have h := raise_cg hP hf (by omega) p [1] (remP p (yR p f k) f) p (Nat.le_refl _) (pol_one hP) D.rpol
    refine ⟨h.1, raise_len hP hf (by omega) p [1] _ p (pol_one hP) D.rpol (by simp; omega), ?_⟩
    have h1 := h.2
    rw [ev_one, Px.one_mul] at h1
    refine h1.trans hp ?_
    rw [Nat.pow_succ, ← pw_pw]
    have c := ((rem_cg hP i1 hf (by omega)).symm hp).trans hp i3
    exact c.pw hP (IsP.ev D.rpol) ((isP_x hP).pw hP _) p

structure Rab (p : Nat) (f : List Nat) (n : Nat) : Prop where
  last : yR p f n = [0, 1]
  gcds : ∀ q, M.Pr q → q ∣ n → (gcdP p f (difP p (yR p f (n / q)) [0, 1])).length ≤ 1

theorem rab_gcd (hP : M.Pr p) {f g : List Nat} (hf : Pol p f) (h3 : 3 ≤ f.length) (hg : Pol p g) (hgf : Dv p g f) (h2 : 2 ≤ g.length) {m : Nat} (c : Cg p g (pw (xX p) (p ^ m)) (xX p)) : 1 < (gcdP p f (difP p (yR p f m) [0, 1])).length := by
  have hp : 0 < p := by have := hP.1; omega
  obtain ⟨i1, i2, i3⟩ := yR_is hP hf h3 m
  have hdp := pol_dif hp (yR p f m) [0, 1]
  have G := gcdP_is hP hf hdp
  have h1 : Dv p g (difP p (yR p f m) [0, 1]) := by
    rw [← dx_iff, ev_dif hp _ (pol_xx hP).red, ev_xx]
    have i4 : Cg p g (ev p (yR p f m)) (pw (xX p) (p ^ m)) := DX.trans hP hgf i3
    exact i4.trans hp c
  have h4 := G.greatest hP hgf h1
  have h0 : (gcdP p f (difP p (yR p f m) [0, 1])).length ≠ 0 := fun h => by
    have := (G.zero.1 (List.eq_nil_of_length_eq_zero h)).1
    rw [this] at h3; simp at h3
  have := (h4.len hP hg G.pol h0).1
  omega

theorem rab_iff (hP : M.Pr p) {f : List Nat} (hf : Pol p f) {n : Nat} (hn : f.length = n + 1) (h2 : 2 ≤ n) : Rab p f n ↔ Irr p f := by
  have hp2 := hP.1
  have hp : 0 < p := by omega
  have h3 : 3 ≤ f.length := by omega
  have hx := isP_x hP
  constructor
  · intro R
    obtain ⟨g, hg, hgf⟩ := exists_irr hP f.length (Nat.le_refl _) hf (by omega)
    obtain ⟨d, hd⟩ : ∃ d, g.length = d + 1 := ⟨g.length - 1, by have := hg.irr.two; omega⟩
    have hd1 : 1 ≤ d := by have := hg.irr.two; omega
    have cn : Cg p g (pw (xX p) (p ^ n)) (xX p) := by
      have i3 := (yR_is hP hf h3 n).2.2
      rw [R.last, ev_xx] at i3
      exact Cg.symm hp (DX.trans hP hgf i3)
    have cd : Cg p g (pw (xX p) (p ^ d)) (xX p) := by
      have := fermat hP hg.irr (pol_xx hP)
      rwa [ev_xx, hd, Nat.add_sub_cancel] at this
    have hdn : d ∣ n := by
      refine Nat.dvd_of_mod_eq_zero (Classical.byContradiction fun h0 => ?_)
      have hlt := Nat.mod_lt n (show 0 < d by omega)
      have c1 : Cg p g (pw (xX p) (p ^ (n % d))) (xX p) := by
        have e : n = d * (n / d) + n % d := (Nat.div_add_mod n d).symm
        have c2 := cn
        rw [e, Nat.pow_add, ← pw_pw] at c2
        exact (Cg.pw hP hx (hx.pw hP _) (Cg.symm hp (x_iter hP cd (n / d))) _).trans hp c2
      have := deg_le hP hg.irr (by omega) c1
      omega
    obtain ⟨e, he⟩ := hdn
    by_cases he1 : e = 1
    · subst he1
      have hlen : g.length = f.length := by omega
      refine ⟨hf, by omega, fun k hk hkd => ?_⟩
      have := hg.irr.dv k hk (hkd.trans hP (Dv.back hP hg.irr.pol hf (by omega) hlen hgf))
      omega
    · exfalso
      have he0 : e ≠ 0 := fun h => by subst h; omega
      obtain ⟨q, hq, hqe⟩ := M.exists_prime e (by omega)
      obtain ⟨k, rfl⟩ := hqe
      have hq2 := hq.1
      have hnq : n / q = d * k := by
        rw [he, show d * (q * k) = d * k * q by ac_rfl]; exact Nat.mul_div_cancel _ (by omega)
      have h4 := R.gcds q hq ⟨d * k, by rw [he]; ac_rfl⟩
      have h5 := rab_gcd hP hf h3 hg.irr.pol hgf (by omega) (m := n / q) (by rw [hnq]; exact x_iter hP cd k)
      omega
  · intro I
    refine ⟨?_, fun q hq hqn => ?_⟩
    · obtain ⟨i1, i2, i3⟩ := yR_is hP hf h3 n
      have c := fermat hP I (pol_xx hP)
      rw [ev_xx, hn, Nat.add_sub_cancel] at c
      refine low_cg hP i1 (pol_xx hP) hf i2 (by show 2 < _; omega) ?_
      rw [ev_xx]; exact i3.trans hp c
    · refine Classical.byContradiction fun hgt => ?_
      have hdp := pol_dif hp (yR p f (n / q)) [0, 1]
      have G := gcdP_is hP hf hdp
      have h4 := (I.dv _ G.pol G.left).resolve_left (by omega)
      have h5 : Dv p f (difP p (yR p f (n / q)) [0, 1]) := (Dv.back hP G.pol hf (by omega) h4 G.left).trans hP G.right
      rw [← dx_iff, ev_dif hp _ (pol_xx hP).red, ev_xx] at h5
      have c : Cg p f (pw (xX p) (p ^ (n / q))) (xX p) := ((yR_is hP hf h3 (n / q)).2.2.symm hp).trans hp h5
      have hq2 := hq.1
      have hnq1 : 1 ≤ n / q := Nat.div_pos (Nat.le_of_dvd (by omega) hqn) (by omega)
      have h6 := deg_le hP I hnq1 c
      have h7 : n / q ≤ n / 2 := Nat.div_le_div_left hq2 (by omega)
      omega

end Q
end Go.Proofs.Ytgnpohapmijfiaa

namespace Go.Proofs.Ytgnpohapmijfiaa
namespace Q
variable {p : Nat}

/-- x^N - x. -/
def xN (p N : Nat) : List Nat := [0, p - 1] ++ List.replicate (N - 2) 0 ++ [1]
theorem xN_is (hP : M.Pr p) {N : Nat} (hN : 3 ≤ N) : Pol p (xN p N) ∧ (xN p N).length = N + 1 ∧ Mon (xN p N) ∧ ev p (xN p N) = pw (xX p) N - xX p := by
  have hp2 := hP.1
  have hl : (xN p N).length = N + 1 := by simp [xN]; omega
  have hlast : (xN p N).getD N 0 = 1 := by
    unfold xN
    rw [List.getD_eq_getElem?_getD, List.getElem?_append_right (by simp; omega)]
    simp [show N - (N - 2 + 1 + 1) = 0 by omega]
  have hm : Mon (xN p N) := ⟨by omega, by rw [hl, Nat.add_sub_cancel]; exact hlast⟩
  refine ⟨pol_of (fun x hx => ?_) (.inr (by rw [hm.2]; omega)), hl, hm, ?_⟩
  · simp only [xN, List.mem_append, List.mem_replicate, List.mem_cons, List.not_mem_nil, or_false] at hx
    omega
  · rw [← hor_x]
    have e : xN p N = 0 :: (p - 1) :: (List.replicate (N - 2) 0 ++ [1]) := by simp [xN]
    rw [e]
    show ev p [0] + xX p * (ev p [p - 1] + xX p * hor (xX p) (List.replicate (N - 2) 0 ++ [1])) = _
    rw [hor_zeros]
    have e1 : hor (xX p) [1] = 1 := by show ev p [1] + xX p * 0 = 1; rw [ev_one, Px.mul_zero, Px.add_zero]
    have e2 : ev p [p - 1] = -1 := by
      have h : ev p [p - 1] + ev p [1] = 0 := by
        rw [ev_const_add, show p - 1 + 1 = p by omega]
        exact ev_const_dvd ⟨1, by omega⟩
      rw [ev_one, Px.add_comm] at h
      exact Px.neg_eq h
    rw [e1, e2, ev_const_zero, Px.zero_add, Px.mul_one, Px.mul_add, Px.mul_neg, Px.mul_one]
    obtain ⟨K, hK⟩ : ∃ K, N = K + 2 := ⟨N - 2, by omega⟩
    rw [hK, Nat.add_sub_cancel, pw_succ, pw_succ, Px.sub_def, Px.add_comm]
    congr 1; ac_rfl

def xN' (_p N : Nat) : List Nat := List.replicate N 0 ++ [1]
theorem xD_is (hP : M.Pr p) {N : Nat} (hN : 2 ≤ N) : Pol p (difP p (xN' p N) [0, 1]) ∧ (difP p (xN' p N) [0, 1]).length = N + 1 ∧ ev p (difP p (xN' p N) [0, 1]) = pw (xX p) N - xX p := by
  have hp2 := hP.1
  have hp : 0 < p := by omega
  have hl : (xN' p N).length = N + 1 := by simp [xN']
  have hev : ev p (difP p (xN' p N) [0, 1]) = pw (xX p) N - xX p := by
    rw [ev_dif hp _ (pol_xx hP).red, ev_xx, ← hor_x (xN' p N)]
    unfold xN'
    rw [hor_zeros]
    have e1 : hor (xX p) [1] = 1 := by show ev p [1] + xX p * 0 = 1; rw [ev_one, Px.mul_zero, Px.add_zero]
    rw [e1, Px.mul_one]
  refine ⟨pol_dif hp _ _, ?_, hev⟩
  have h1 := dif_len (p := p) hp (f := xN' p N) (g := [0, 1])
  rw [hl] at h1
  have h2 : (difP p (xN' p N) [0, 1]).getD N 0 = 1 := by
    rw [dif_getD]
    have e1 : (xN' p N).getD N 0 = 1 := by simp [xN', List.getD]
    have e2 : [0, 1].getD N 0 = 0 := getD_out (by simp; omega)
    rw [e1, e2, Nat.sub_zero, Nat.add_mod_right]; exact Nat.mod_eq_of_lt (by omega)
  have h3 : ¬ (difP p (xN' p N) [0, 1]).length ≤ N := fun h => by rw [getD_out h] at h2; omega
  simp at h1
  omega

theorem Dr_neg (a : Px p) : Dr (-a) = -Dr a := by
  refine Px.neg_eq ?_
  rw [← Dr_add, Px.add_neg]
  have : Dr (0 : Px p) + Dr (0 : Px p) = Dr (0 : Px p) + 0 := by rw [← Dr_add, Px.add_zero, Px.add_zero]
  rw [Px.add_comm, Px.add_comm (Dr 0) 0] at this
  exact Px.add_cancel this
theorem Dr_x (hP : M.Pr p) : Dr (xX p) = 1 := by
  have h : deriv p [0, 1] = [1] := by
    have hp2 := hP.1
    unfold deriv
    simp only [List.length_cons, List.length_nil]
    have : (List.range (0 + 1 + 1 - 1)).map (fun i => (i + 1) * [0, 1].getD (i + 1) 0 % p) = [1] := by
      simp [List.range_succ]; exact Nat.mod_eq_of_lt (by omega)
    rw [this]; rfl
  rw [← ev_xx, ← ev_deriv, h, ev_one]

theorem sum_pow_lt (hp : 2 ≤ p) : ∀ m, ((List.range m).map fun j => p ^ (j + 1)).sum < p ^ (m + 1)
  | 0 => by simp; omega
  | m + 1 => by
    have ih := sum_pow_lt hp m
    rw [List.range_succ, List.map_append, List.sum_append]
    simp only [List.map_cons, List.map_nil, List.sum_cons, List.sum_nil, Nat.add_zero]
    have : 2 * p ^ (m + 1) ≤ p * p ^ (m + 1) := Nat.mul_le_mul_right _ hp
    rw [Nat.pow_succ p (m + 1), Nat.mul_comm _ p]; omega

theorem prodL_len (hP : M.Pr p) : ∀ {l : List (List Nat)}, (∀ g ∈ l, Pol p g ∧ g.length ≠ 0) → (prodL p l).length = 1 + (l.map fun g => g.length - 1).sum
  | [], _ => rfl
  | g :: l, h => by
    have hg := h g (by simp)
    have hl : ∀ x ∈ l, Pol p x ∧ x.length ≠ 0 := fun x hx => h x (by simp [hx])
    have ih := prodL_len hP hl
    rw [prodL, prod_length hg.2 (by omega), ih, List.map_cons, List.sum_cons]; omega

/-- In every degree there is an irreducible polynomial. -/
theorem exists_deg (hP : M.Pr p) (n : Nat) (h1 : 1 ≤ n) : ∃ g, MIrr p g ∧ g.length = n + 1 := by
  have hp2 := hP.1
  have hp : 0 < p := by omega
  by_cases hn1 : n = 1
  · subst hn1
    refine ⟨lin p 0, ⟨⟨pol_lin hp2 0, by simp [lin], fun d hd hdv => ?_⟩, by simp [lin], by simp [lin]⟩, rfl⟩
    have h := hdv.len hP hd (pol_lin hp2 0) (by simp [lin])
    simp [lin] at h ⊢
    have h0 : d.length ≠ 0 := fun e => h.2 (List.eq_nil_of_length_eq_zero e)
    omega
  · have hpow : ∀ j, 1 ≤ j → p ≤ p ^ j := fun j hj => by have := Nat.pow_le_pow_right hp hj; rwa [Nat.pow_one] at this
    have hN4 : 4 ≤ p ^ n := Nat.le_trans (show 4 ≤ p * p by have := Nat.mul_le_mul hp2 hp2; omega) (by have := Nat.pow_le_pow_right hp (show 2 ≤ n by omega); rwa [Nat.pow_two] at this)
    obtain ⟨f1, f2, f3, f4⟩ := xN_is hP (N := p ^ n) (by omega)
    obtain ⟨F, hF⟩ : ∃ F, F = xN p (p ^ n) := ⟨_, rfl⟩
    rw [← hF] at f1 f2 f3 f4
    have hx := isP_x hP
    -- the derivative is -1
    have hd : ev p (deriv p F) = -1 := by
      obtain ⟨K, hK⟩ : ∃ K, p ^ n = K + 1 := ⟨p ^ n - 1, by omega⟩
      have hpK : p ∣ K + 1 := by rw [← hK]; exact ⟨p ^ (n - 1), by rw [← Nat.pow_succ']; congr 1; omega⟩
      rw [ev_deriv, f4, Px.sub_def, Dr_add, Dr_neg, Dr_x hP, hK, Dr_pw, ev_const_dvd hpK, Px.zero_mul, Px.zero_mul, Px.zero_add]
    have hdp := drv_pol hp F
    have hG : gcdP p F (deriv p F) = [1] := by
      have G := gcdP_is hP f1 hdp
      have hne : gcdP p F (deriv p F) ≠ [] := fun h => by have := (G.zero.1 h).1; rw [this] at f2; simp at f2
      have mG := G.mon.resolve_left hne
      refine mon_len1 mG ?_
      refine dv_one hP G.pol ?_
      rw [← dx_iff, ev_one]
      have h5 := dx_iff.2 G.right
      rw [hd] at h5
      have h6 := h5.neg hp
      rwa [Px.neg_neg] at h6
    obtain ⟨l, hl, el⟩ := exists_fac hP _ (Nat.le_refl _) f1 f3
    have hln : l.Nodup := by
      rw [List.nodup_iff_count]
      intro g
      by_cases hg : g ∈ l
      · have h3 := count_gcd hP f1 (hl g hg) hl (E := []) (by simp) (c := 1) (by omega) (by omega) (by rw [ev_one, Px.one_mul]; exact el) (by rw [hG]; rfl)
        rw [List.count_nil] at h3
        split at h3
        · have := List.count_pos_iff.2 hg; omega
        · omega
      · rw [List.count_eq_zero_of_not_mem hg]; omega
    have hdv : ∀ g ∈ l, Cg p g (pw (xX p) (p ^ n)) (xX p) := fun g hg => by
      unfold Cg
      rw [← f4, el, dx_iff]
      exact dv_prodL_mem hP (fun x hx => (hl x hx).irr.pol) hg
    refine Classical.byContradiction fun hno => ?_
    have hdeg : ∀ g ∈ l, g.length - 1 < n := fun g hg => by
      have h5 := deg_le hP (hl g hg).irr h1 (hdv g hg)
      have h6 := (hl g hg).irr.two
      refine Nat.lt_of_le_of_ne h5 fun e => hno ⟨g, hl g hg, by omega⟩
    -- the product of the lesser ones
    obtain ⟨Ws, hWs⟩ : ∃ Ws, Ws = (List.range (n - 1)).map fun j => difP p (xN' p (p ^ (j + 1))) [0, 1] := ⟨_, rfl⟩
    have hW : ∀ j, j < n - 1 → Pol p (difP p (xN' p (p ^ (j + 1))) [0, 1]) ∧ (difP p (xN' p (p ^ (j + 1))) [0, 1]).length = p ^ (j + 1) + 1 ∧ ev p (difP p (xN' p (p ^ (j + 1))) [0, 1]) = pw (xX p) (p ^ (j + 1)) - xX p := fun j _ => xD_is hP (Nat.le_trans hp2 (hpow (j + 1) (by omega)))
    have hWp : ∀ w ∈ Ws, Pol p w ∧ w.length ≠ 0 := fun w hw => by
      rw [hWs] at hw
      obtain ⟨j, hj, rfl⟩ := List.mem_map.1 hw
      have := hW j (List.mem_range.1 hj)
      exact ⟨this.1, by omega⟩
    have hall : DX p (prodL p l) (ev p (prodL p Ws)) := by
      refine dx_prodL hP (IsP.ev (prodL_pol hP fun w hw => (hWp w hw).1)) hln hl fun g hg => ?_
      have h5 := hdeg g hg
      have h6 := (hl g hg).irr.two
      obtain ⟨j, hj⟩ : ∃ j, g.length - 1 = j + 1 := ⟨g.length - 2, by omega⟩
      have hmem : difP p (xN' p (p ^ (j + 1))) [0, 1] ∈ Ws := by rw [hWs]; exact List.mem_map.2 ⟨j, List.mem_range.2 (by omega), rfl⟩
      have h7 : DX p g (ev p (difP p (xN' p (p ^ (j + 1))) [0, 1])) := by
        rw [(hW j (by omega)).2.2]
        have := fermat hP (hl g hg).irr (pol_xx hP)
        rwa [ev_xx, hj] at this
      exact dx_iff.2 ((dx_iff.1 h7).trans hP (dv_prodL_mem hP (fun w hw => (hWp w hw).1) hmem))
    have hFW : Dv p F (prodL p Ws) := by
      rw [← dx_iff]
      unfold DX at hall ⊢
      rw [el]; exact hall
    have hWl := prodL_len hP hWp
    have hle := (hFW.len hP f1 (prodL_pol hP fun w hw => (hWp w hw).1) (by omega)).1
    have hsum : (Ws.map fun g => g.length - 1) = (List.range (n - 1)).map fun j => p ^ (j + 1) := by
      rw [hWs, List.map_map]
      refine List.map_congr_left fun j hj => ?_
      show (difP p (xN' p (p ^ (j + 1))) [0, 1]).length - 1 = _
      rw [(hW j (List.mem_range.1 hj)).2.1]; omega
    rw [hsum] at hWl
    have hlt := sum_pow_lt hp2 (n - 1)
    rw [show n - 1 + 1 = n by omega] at hlt
    omega

end Q
end Go.Proofs.Ytgnpohapmijfiaa

namespace Go.Proofs.Ytgnpohapmijfiaa
open Go.RowKit

set_option maxRecDepth 100000 in
set_option maxHeartbeats 4000000 in
theorem rpower_is (p n : Nat) (F W0 : List Nat) (v1 v2 : Value) (w : World) (hP : Hid (M.Pr p)) (hp2 : p ≤ 1021) (hn : n ≤ 1000000) (h1 : Hid (Rd w v1 1 F.length (nats F))) (h2 : Hid (Rd w v2 1 W0.length (nats W0)))
    (hF : Hid (Q.Pol p F)) (hM : Hid (Q.Pol p W0)) (hl1 : F.length ≤ 40000) (hl2 : W0.length ≤ 40000) (hm2 : 2 ≤ W0.length) :
    Calls Try.prog 74 #[.int .i64 p, v1, .int .i64 n, v2] w (RetL w (Q.raiseLoop p W0 n [1] (Q.remP p F W0) n)) := by
  have hp : 2 ≤ p := hP.out.1
  obtain ⟨a1, c1, hv1⟩ := h1.out.shape
  obtain ⟨a2, c2, hv2⟩ := h2.out.shape
  subst hv1 hv2
  obtain ⟨fin, hfin⟩ : ∃ fin, fin = Q.raiseLoop p W0 n [1] (Q.remP p F W0) n := ⟨_, rfl⟩
  have HF0 := Lib.hid hfin
  rw [← hfin]
  have HB0 : Hid (Below w.heap.size w (w.alloc (.cells #[.int .i64 1] 3))) := (Below.refl _ _).alloc (Nat.le_refl _) _
  have HN0 : Hid (NewL w (w.alloc (.cells #[.int .i64 1] 3)) (.slice (some ⟨w.heap.size, 0, none⟩) 1 1) [1]) := lit1_own w 1
  have HR1 : Hid (Rd (w.alloc (.cells #[.int .i64 1] 3)) (.slice a1 F.length c1) 1 F.length (nats F)) := h1.out.below HB0.out (Nat.le_refl _)
  have HR2 : Hid (Rd (w.alloc (.cells #[.int .i64 1] 3)) (.slice a2 W0.length c2) 1 W0.length (nats W0)) := h2.out.below HB0.out (Nat.le_refl _)
  have HD0 := Lib.hid (Q.div_is hP.out hF.out hM.out (by omega))
  have HP1 : Hid (Q.Pol p [1]) := Q.pol_one hP.out
  clear hfin h1
  go_enter Try.func74, Try.ntmps74
  go_wp2_with (fail)
  refine (rDiv_is p F W0 _ _ _ hP hp2 HR1 HR2 hF hM (by omega) (by omega)).mono ?_
  rintro e w1 ⟨⟨vq, vr, rfl, hNq, hNr⟩, hB1⟩
  have HB1 := Lib.hid (HB0.out.trans (hB1.mono HB0.out.size))
  have HO1 : Hid (NewL w w1 (.slice (some ⟨w.heap.size, 0, none⟩) 1 1) [1]) := HN0.out.keep hB1
  have HS1 : Hid (NewL w w1 vr (Q.remP p F W0)) := hNr.from HB0.out.size
  obtain ⟨aq, cq, hvq⟩ := hNq.rd.shape
  obtain ⟨ar, cr, hvr⟩ := hNr.rd.shape
  subst hvq hvr
  have HPS : Hid (Q.Pol p (Q.remP p F W0)) := HD0.out.rpol
  have hls : (Q.remP p F W0).length < W0.length := HD0.out.rlen
  clear hNq hNr hB1 HR1 HR2 HN0
  go_wp2_with (fail)
  go_loopw [9, 1, 2] (fun ov sv nv wx => ∃ (e g m1 m2 cp1 cp2 : Nat) (b1 b2 : Option Addr) (r s : List Nat), ov = .slice b1 m1 cp1 ∧ sv = .slice b2 m2 cp2 ∧ nv = .int .i64 e ∧ e ≤ g ∧ e ≤ n ∧ Hid (Q.raiseLoop p W0 g r s e = fin) ∧ Hid (m1 = r.length ∧ m2 = s.length) ∧ Hid (Q.Pol p r ∧ r.length < W0.length ∧ Q.Pol p s ∧ s.length < W0.length) ∧ Hid (NewL w wx (.slice b1 m1 cp1) r) ∧ Hid (NewL w wx (.slice b2 m2 cp2) s) ∧ Hid (Below w.heap.size w wx)) (fun _ _ nv _ => (intOf nv).toNat)
  case atStart => exact ⟨n, n, 1, _, 1, cr, _, ar, [1], _, rfl, rfl, rfl, by omega, by omega, HF0.out.symm, ⟨rfl, rfl⟩, ⟨HP1.out, by simp; omega, HPS.out, hls⟩, HO1, HS1, HB1⟩
  case round =>
    obtain ⟨e, g, m1, m2, cp1, cp2, b1, b2, r, s, rfl, rfl, rfl, heg, hen, HE, HM, HQ, HNR, HNS, HB⟩ := hrel
    by_cases he : 0 < e
    · obtain ⟨g', hg⟩ : ∃ g', g = g' + 1 := ⟨g - 1, by omega⟩
      have hpr := HQ.out.1
      have hrl := HQ.out.2.1
      have hps := HQ.out.2.2.1
      have hsl := HQ.out.2.2.2
      have HPR := Lib.hid hpr
      have HPSS := Lib.hid hps
      have HEE : Hid (Q.raiseLoop p W0 g' (if e % 2 = 1 then Q.remP p (Q.prodP' p r s) W0 else r) (Q.remP p (Q.prodP' p s s) W0) (e / 2) = fin) := by
        have h := HE.out
        rw [hg, Q.raiseLoop, if_neg (by omega)] at h; exact h
      have HPP : Hid (Q.Pol p (Q.prodP' p r s)) := Q.pol_prod hP.out hpr hps
      have HPP2 : Hid (Q.Pol p (Q.prodP' p s s)) := Q.pol_prod hP.out hps hps
      have hpl1 : (Q.prodP' p r s).length ≤ 80000 := by
        by_cases h0 : r.length = 0 ∨ s.length = 0
        · rw [Q.prod_nil h0]; simp
        · rw [Q.prod_length (by omega) (by omega)]; omega
      have hpl2 : (Q.prodP' p s s).length ≤ 80000 := by
        by_cases h0 : s.length = 0 ∨ s.length = 0
        · rw [Q.prod_nil h0]; simp
        · rw [Q.prod_length (by omega) (by omega)]; omega
      have HD1 := Lib.hid (Q.div_is hP.out HPP.out hM.out (by omega))
      have HD2 := Lib.hid (Q.div_is hP.out HPP2.out hM.out (by omega))
      have HRR : Hid (Rd wr (.slice b1 m1 cp1) 1 r.length (nats r)) := HNR.out.rd
      have HRS : Hid (Rd wr (.slice b2 m2 cp2) 1 s.length (nats s)) := HNS.out.rd
      have HRM : Hid (Rd wr (.slice a2 W0.length c2) 1 W0.length (nats W0)) := h2.out.below HB.out (Nat.le_refl _)
      obtain ⟨e2, he2⟩ : ∃ e2, e2 = e / 2 := ⟨_, rfl⟩
      have q1 : (e : Int) / 2 = (e2 : Int) := by rw [he2]; rfl
      have q2 : (e : Int).tdiv 2 = (e2 : Int) := by rw [he2]; rfl
      have he2a : e2 ≤ g' := by omega
      have he2b : e2 ≤ n := by omega
      have he2c : e2 < e := by omega
      rw [← he2] at HEE
      have hgt : (0 : Int) < (e : Int) := by omega
      by_cases hodd : e % 2 = 1
      · have t1 : ((e : Int) % 2 == 1) = true := by rw [beq_iff_eq]; omega
        have t2 : ((e : Int).tmod 2 == 1) = true := by rw [beq_iff_eq, Int.tmod_eq_emod_of_nonneg (by omega)]; omega
        rw [if_pos hodd] at HEE
        clear HE hg hpr hps he2 hodd HM HQ
        go_wp2_with (fail)
        refine (rMul_is p r s _ _ _ hP hp2 HRR HRS HPR HPSS (by omega) (by omega)).mono ?_
        rintro z u1 ⟨⟨vp, rfl, hNp⟩, hC1⟩
        have HRP : Hid (Rd u1 vp 1 (Q.prodP' p r s).length (nats (Q.prodP' p r s))) := hNp.rd
        obtain ⟨ap, cpp, hvp⟩ := hNp.rd.shape
        subst hvp
        have HC1 := Lib.hid hC1
        have HRM1 : Hid (Rd u1 (.slice a2 W0.length c2) 1 W0.length (nats W0)) := HRM.out.below hC1 (Nat.le_refl _)
        clear hNp hC1
        go_wp2_with (fail)
        refine (rDiv_is p (Q.prodP' p r s) W0 _ _ _ hP hp2 HRP HRM1 HPP hM (by omega) (by omega)).mono ?_
        rintro z u2 ⟨⟨vq, vr, rfl, hNq, hNr⟩, hC2⟩
        have HC2 := Lib.hid (HC1.out.trans (hC2.mono HC1.out.size))
        have HNR2 : Hid (NewL w u2 vr (Q.remP p (Q.prodP' p r s) W0)) := hNr.from (Nat.le_trans HB.out.size HC1.out.size)
        obtain ⟨aq, cq, hvq⟩ := hNq.rd.shape
        obtain ⟨ar2, cr2, hvr2⟩ := hNr.rd.shape
        subst hvq hvr2
        have HRS2 : Hid (Rd u2 (.slice b2 m2 cp2) 1 s.length (nats s)) := HRS.out.below HC2.out (Nat.le_refl _)
        have HRM2 : Hid (Rd u2 (.slice a2 W0.length c2) 1 W0.length (nats W0)) := HRM.out.below HC2.out (Nat.le_refl _)
        clear hNq hNr hC2
        go_wp2_with (fail)
        refine (rMul_is p s s _ _ _ hP hp2 HRS2 HRS2 HPSS HPSS (by omega) (by omega)).mono ?_
        rintro z u3 ⟨⟨vp, rfl, hNp⟩, hC3⟩
        have HRP3 : Hid (Rd u3 vp 1 (Q.prodP' p s s).length (nats (Q.prodP' p s s))) := hNp.rd
        obtain ⟨ap3, cpp3, hvp3⟩ := hNp.rd.shape
        subst hvp3
        have HC3 := Lib.hid (HC2.out.trans (hC3.mono HC2.out.size))
        have HRM3 : Hid (Rd u3 (.slice a2 W0.length c2) 1 W0.length (nats W0)) := HRM2.out.below hC3 (Nat.le_refl _)
        have HNR3 := Lib.hid (HNR2.out.keep hC3)
        clear hNp hC3
        go_wp2_with (fail)
        refine (rDiv_is p (Q.prodP' p s s) W0 _ _ _ hP hp2 HRP3 HRM3 HPP2 hM (by omega) (by omega)).mono ?_
        rintro z u4 ⟨⟨vq, vr, rfl, hNq, hNr⟩, hC4⟩
        have HC4 := Lib.hid (HB.out.trans ((HC3.out.trans (hC4.mono HC3.out.size)).mono HB.out.size))
        have HNS4 : Hid (NewL w u4 vr (Q.remP p (Q.prodP' p s s) W0)) := hNr.from (Nat.le_trans HB.out.size HC3.out.size)
        have HNR4 : Hid (NewL w u4 (.slice ar2 (Q.remP p (Q.prodP' p r s) W0).length cr2) (Q.remP p (Q.prodP' p r s) W0)) := HNR3.out.keep hC4
        obtain ⟨aq4, cq4, hvq4⟩ := hNq.rd.shape
        obtain ⟨ar4, cr4, hvr4⟩ := hNr.rd.shape
        subst hvq4 hvr4
        have HQ4 : Hid (Q.Pol p (Q.remP p (Q.prodP' p r s) W0) ∧ (Q.remP p (Q.prodP' p r s) W0).length < W0.length ∧ Q.Pol p (Q.remP p (Q.prodP' p s s) W0) ∧ (Q.remP p (Q.prodP' p s s) W0).length < W0.length) := ⟨HD1.out.rpol, HD1.out.rlen, HD2.out.rpol, HD2.out.rlen⟩
        clear hNq hNr hC4
        go_wp2_with (fail)
        go_roundw
        case rel => exact ⟨e2, g', _, _, cr2, cr4, ar2, ar4, _, _, rfl, rfl, rfl, he2a, he2b, HEE, ⟨rfl, rfl⟩, HQ4, HNR4, HNS4, HC4⟩
        case measure => simp [intOf]; omega
      · have t1 : ((e : Int) % 2 == 1) = false := by rw [beq_eq_false_iff_ne]; omega
        have t2 : ((e : Int).tmod 2 == 1) = false := by rw [beq_eq_false_iff_ne, Int.tmod_eq_emod_of_nonneg (by omega)]; omega
        rw [if_neg hodd] at HEE
        clear HE hg hpr hps he2 hodd HQ
        go_wp2_with (fail)
        refine (rMul_is p s s _ _ _ hP hp2 HRS HRS HPSS HPSS (by omega) (by omega)).mono ?_
        rintro z u3 ⟨⟨vp, rfl, hNp⟩, hC3⟩
        have HRP3 : Hid (Rd u3 vp 1 (Q.prodP' p s s).length (nats (Q.prodP' p s s))) := hNp.rd
        obtain ⟨ap3, cpp3, hvp3⟩ := hNp.rd.shape
        subst hvp3
        have HC3 := Lib.hid hC3
        have HRM3 : Hid (Rd u3 (.slice a2 W0.length c2) 1 W0.length (nats W0)) := HRM.out.below hC3 (Nat.le_refl _)
        have HNR3 := Lib.hid (HNR.out.keep hC3)
        clear hNp hC3
        go_wp2_with (fail)
        refine (rDiv_is p (Q.prodP' p s s) W0 _ _ _ hP hp2 HRP3 HRM3 HPP2 hM (by omega) (by omega)).mono ?_
        rintro z u4 ⟨⟨vq, vr, rfl, hNq, hNr⟩, hC4⟩
        have HC4 := Lib.hid (HB.out.trans ((HC3.out.trans (hC4.mono HC3.out.size)).mono HB.out.size))
        have HNS4 : Hid (NewL w u4 vr (Q.remP p (Q.prodP' p s s) W0)) := hNr.from (Nat.le_trans HB.out.size HC3.out.size)
        have HNR4 : Hid (NewL w u4 (.slice b1 m1 cp1) r) := HNR3.out.keep hC4
        obtain ⟨aq4, cq4, hvq4⟩ := hNq.rd.shape
        obtain ⟨ar4, cr4, hvr4⟩ := hNr.rd.shape
        subst hvq4 hvr4
        have HQ4 : Hid (Q.Pol p r ∧ r.length < W0.length ∧ Q.Pol p (Q.remP p (Q.prodP' p s s) W0) ∧ (Q.remP p (Q.prodP' p s s) W0).length < W0.length) := ⟨HPR.out, hrl, HD2.out.rpol, HD2.out.rlen⟩
        have HM4 : Hid (m1 = r.length) := HM.out.1
        clear hNq hNr hC4
        go_wp2_with (fail)
        go_roundw
        case rel => exact ⟨e2, g', m1, _, cp1, cr4, b1, ar4, r, _, rfl, rfl, rfl, he2a, he2b, HEE, ⟨HM4.out, rfl⟩, HQ4, HNR4, HNS4, HC4⟩
        case measure => simp [intOf]; omega
    · have he0 : e = 0 := by omega
      subst he0
      have HRF : Hid (NewL w wr (.slice b1 m1 cp1) fin) := by
        have h := HE.out
        have hr : r = fin := by
          cases g with
          | zero => exact h
          | succ g => rw [Q.raiseLoop, if_pos rfl] at h; exact h
        show NewL _ _ _ _
        rw [← hr]; exact HNR.out
      clear HE HM HQ HNR HNS
      go_wp2_with (fail)
      go_ret
      exact ⟨⟨_, rfl, HRF.out⟩, HB.out⟩

theorem flat_prime {L : List (Nat × Nat)} {k : Nat} (h : k < L.length) : (flat L)[k * 2]? = some (.int .i64 (L[k].1 : Int)) := by
  induction L generalizing k with
  | nil => simp at h
  | cons x L ih =>
    have e : flat (x :: L) = .int .i64 (x.1 : Int) :: .int .i64 (x.2 : Int) :: flat L := rfl
    cases k with
    | zero => rw [e]; rfl
    | succ k =>
      rw [e, show (k + 1) * 2 = (k * 2) + 1 + 1 by omega, List.getElem?_cons_succ, List.getElem?_cons_succ, ih (by simpa using h)]
      rfl

theorem Q.irr_two {p : Nat} {f : List Nat} (hP : M.Pr p) (hf : Q.Pol p f) (h : f.length = 2) : Q.Irr p f :=
  ⟨hf, by omega, fun d hd hdv => by
    have := hdv.len hP hd hf (by omega)
    have h0 : d.length ≠ 0 := this.2
    omega⟩

set_option maxRecDepth 100000 in
set_option maxHeartbeats 8000000 in
theorem rIrr_is (p : Nat) (F : List Nat) (v : Value) (t : Bool) (w : World) (hP : Hid (M.Pr p)) (hp2 : p ≤ 1021) (hr : Hid (Rd w v 1 F.length (nats F))) (hF : Hid (Q.Pol p F)) (hl : F.length ≤ 34) (ht : Hid (Q.Irr p F ↔ t = true)) :
    Calls Try.prog 39 #[.int .i64 p, v] w fun x w' => x = .returned (.bool t) ∧ Below w.heap.size w w' := by
  have hp : 2 ≤ p := hP.out.1
  obtain ⟨a, c, hv⟩ := hr.out.shape
  subst hv
  by_cases h1 : F.length < 2
  · have HT : Hid (false = t) := by
      cases t with
      | false => rfl
      | true => have := (ht.out.2 rfl).two; omega
    have hd : decide ((F.length : Int) - 1 < 1) = true := by rw [decide_eq_true_iff]; omega
    have hd2 : (F.length : Int) - 1 < 1 := by omega
    clear h1
    go_enter Try.func39, Try.ntmps39
    go_wp2_with (fail)
    go_ret
    exact ⟨by rw [← HT.out]; rfl, Below.refl _ _⟩
  · obtain ⟨n, hn⟩ : ∃ n, F.length = n + 1 := ⟨F.length - 1, by omega⟩
    have HN := Lib.hid hn
    have HR0 : Hid (Rd w (.slice a (n + 1) c) 1 F.length (nats F)) := by show Rd _ _ _ _ _; rw [← hn]; exact hr.out
    rw [hn] at hl ⊢
    have hn1 : ((n + 1 : Nat) : Int) - 1 = (n : Int) := by omega
    have hnm : (n : Int) + 1 - 1 = (n : Int) := by omega
    have hd : decide ((n : Int) < 1) = false := by rw [decide_eq_false_iff_not]; omega
    by_cases h2 : n = 1
    · have HT : Hid (true = t) := (ht.out.1 (Q.irr_two hP.out hF.out (by omega))).symm
      have hd2 : ((n : Int) == 1) = true := by simp [h2]
      clear h1 h2 hn
      go_enter Try.func39, Try.ntmps39
      go_wp2_with (fail)
      go_ret
      exact ⟨by rw [← HT.out]; rfl, Below.refl _ _⟩
    · have hd2 : ((n : Int) == 1) = false := by rw [beq_eq_false_iff_ne]; omega
      have hn2 : 2 ≤ n := by omega
      have HRAB := Lib.hid (Q.rab_iff hP.out hF.out hn hn2)
      have HY := Lib.hid (Q.yR_is hP.out hF.out (by omega))
      obtain ⟨L, hL0⟩ := M.exists_fac n (by omega)
      have hL : Hid (M.IsFac (n : Int).toNat L) := by rw [Int.toNat_natCast]; exact hL0
      have HLF := Lib.hid hL0
      have hlen : L.length ≤ 30 := hL0.1.length_le (by rw [hL0.2]; omega)
      have HXP : Hid (Q.Pol p [0, 1]) := Q.pol_xx hP.out
      have HBX : Hid (Below w.heap.size w (w.alloc (.cells #[.int .i64 0, .int .i64 1] 3))) := (Below.refl _ _).alloc (Nat.le_refl _) _
      have HRX : Hid (Rd (w.alloc (.cells #[.int .i64 0, .int .i64 1] 3)) (.slice (some ⟨w.heap.size, 0, none⟩) 2 2) 1 [0, 1].length (nats [0, 1])) := lit2 w 0 1 3
      clear h1 h2 hn hL0
      go_enter Try.func39, Try.ntmps39
      go_wp2_with (fail)
      refine (refFactor_any (n : Int) L _ (by omega) (by omega) hL).mono ?_
      rintro e w1 ⟨⟨vl, rfl, hown⟩, hB⟩
      have HB1 := Lib.hid (HBX.out.trans (hB.mono HBX.out.size))
      have HRX1 : Hid (Rd w1 (.slice (some ⟨w.heap.size, 0, none⟩) 2 2) 1 [0, 1].length (nats [0, 1])) := HRX.out.below hB (Nat.le_refl _)
      have hrd := Rd.of_own hown
      obtain ⟨hfl, al, capl, hvl, hcapl, hcell⟩ := hrd
      subst hvl
      obtain ⟨m, hm⟩ : ∃ m, m = L.length := ⟨_, rfl⟩
      have HC : Hid (∀ k (h : k < L.length), ∃ b, al = some ⟨b, 0, none⟩ ∧ b < w1.heap.size ∧ w1.cell? ⟨b, k * 2, none⟩ = some (.int .i64 (L[k].1 : Int))) := fun k h => by
        rcases hcell with h0 | ⟨b, rfl, hb, hc⟩
        · omega
        · exact ⟨b, rfl, hb, hc _ _ (flat_prime h)⟩
      have HM := Lib.hid hm
      have HRF1 : Hid (Rd w1 (.slice a (n + 1) c) 1 F.length (nats F)) := HR0.out.below HB1.out (Nat.le_refl _)
      rw [← hm] at hlen hcapl ⊢
      clear hown hB hcell hfl hm
      have hmN : (n : Int) < (n : Int) + 1 := by omega
      go_wp2_with (fail)
      go_loopw [8, 9] (fun yv kv wx => ∃ (K k m1 cp : Nat) (b1 : Option Addr), yv = .slice b1 m1 cp ∧ kv = .int .i64 K ∧ k ≤ n ∧ K ≤ n + 1 ∧ Hid (K = k + 1) ∧ Hid (m1 = (Q.yR p F k).length) ∧ Hid (Rd wx (.slice b1 m1 cp) 1 (Q.yR p F k).length (nats (Q.yR p F k))) ∧ Hid (∀ q, M.Pr q → q ∣ n → n / q ≤ k → (Q.gcdP p F (Q.difP p (Q.yR p F (n / q)) [0, 1])).length ≤ 1) ∧ Hid (Below w1.heap.size w1 wx)) (fun _ kv _ => n + 1 - (intOf kv).toNat)
      case atStart => exact ⟨1, 0, 2, 2, _, rfl, by first | rfl | go_num, by omega, by omega, rfl, rfl, HRX1, (fun q hq hqn h => absurd (Nat.div_pos (Nat.le_of_dvd (by omega) hqn) (by have := hq.1; omega)) (by omega)), Below.refl _ _⟩
      case round =>
        obtain ⟨K, k, m1, cp, b1, rfl, rfl, hk, hKn, HKk, HMY, HRY, HG, HB⟩ := hrel
        have HRF : Hid (Rd wr (.slice a (n + 1) c) 1 F.length (nats F)) := HRF1.out.below HB.out (Nat.le_refl _)
        have HRX2 : Hid (Rd wr (.slice (some ⟨w.heap.size, 0, none⟩) 2 2) 1 [0, 1].length (nats [0, 1])) := HRX1.out.below HB.out (Nat.le_refl _)
        by_cases hlt : k < n
        · have hle2 : K ≤ n := by have := HKk.out; omega
          obtain ⟨hy1, hy2, _⟩ := HY.out k
          have HPY := Lib.hid hy1
          obtain ⟨hz1, hz2, _⟩ := HY.out (k + 1)
          have HPZ := Lib.hid hz1
          have hyl : (Q.yR p F k).length ≤ 34 := by have := HN.out; omega
          have hzl : (Q.yR p F (k + 1)).length ≤ 34 := by have := HN.out; omega
          have hF2 : 2 ≤ F.length := by have := HN.out; omega
          have hF34 : F.length ≤ 34 := by have := HN.out; omega
          clear hy1 hy2 hz1 hz2
          go_wp2_with (fail)
          refine (rpower_is p p (Q.yR p F k) F _ _ _ hP hp2 (by omega) HRY HRF HPY hF (by omega) (by omega) hF2).mono ?_
          rintro e w3 ⟨⟨vy, rfl, hNy⟩, hB3⟩
          have hye : Q.raiseLoop p F p [1] (Q.remP p (Q.yR p F k) F) p = Q.yR p F (k + 1) := rfl
          rw [hye] at hNy
          have HB3 := Lib.hid (HB.out.trans (hB3.mono HB.out.size))
          have HRY3 : Hid (Rd w3 vy 1 (Q.yR p F (k + 1)).length (nats (Q.yR p F (k + 1)))) := hNy.rd
          obtain ⟨by3, cy3, hvy⟩ := hNy.rd.shape
          subst hvy
          have HRF3 : Hid (Rd w3 (.slice a (n + 1) c) 1 F.length (nats F)) := HRF.out.below hB3 (Nat.le_refl _)
          have HRX3 : Hid (Rd w3 (.slice (some ⟨w.heap.size, 0, none⟩) 2 2) 1 [0, 1].length (nats [0, 1])) := HRX2.out.below hB3 (Nat.le_refl _)
          obtain ⟨Y, hY⟩ : ∃ Y, Y = Q.yR p F (k + 1) := ⟨_, rfl⟩
          rw [← hY] at HRY3 HPZ hzl ⊢
          have HYE := Lib.hid hY
          obtain ⟨D, hD⟩ : ∃ D, D = Q.difP p Y [0, 1] := ⟨_, rfl⟩
          obtain ⟨G, hG⟩ : ∃ G, G = Q.gcdP p F D := ⟨_, rfl⟩
          have HPD : Hid (Q.Pol p D) := by rw [hD]; exact Q.pol_dif (by omega) _ _
          have hDl : D.length ≤ 34 := by rw [hD]; have := Q.dif_len (p := p) (by omega) (f := Y) (g := [0, 1]); simp at this; omega
          have HDE := Lib.hid hD
          have HGE := Lib.hid hG
          have HG0 : Hid (∀ i (h : i < L.length), i < 0 → k + 1 = n / L[i].1 → G.length ≤ 1) := fun i h h0 => by omega
          clear hNy hB3 hye hY hD hG HRY HMY HPY
          go_wp2_with (fail)
          go_loopw [10] (fun iv wx => ∃ (i : Nat), iv = .int .i64 i ∧ i ≤ m ∧ Hid (∀ j (h : j < L.length), j < i → k + 1 = n / L[j].1 → G.length ≤ 1) ∧ Hid (Below w3.heap.size w3 wx)) (fun iv _ => m - (intOf iv).toNat)
          case atStart => exact ⟨0, rfl, by omega, HG0, Below.refl _ _⟩
          case round =>
            obtain ⟨i, rfl, hi, HI, HBi⟩ := hrel
            have HB13 := Lib.hid (HB3.out.trans (HBi.out.mono HB3.out.size))
            by_cases him : i < m
            · have hiL : i < L.length := by have := HM.out; omega
              obtain ⟨bl, hbl, hbs, hcl⟩ := HC.out i hiL
              subst hbl
              have hcl2 : wr.cell? ⟨bl, i * 2, none⟩ = some (.int .i64 (L[i].1 : Int)) := by rw [HB13.out.cell (p := ⟨bl, i * 2, none⟩) hbs]; exact hcl
              have hgq := HLF.out.1.gt L[i] (List.getElem_mem hiL)
              obtain ⟨q, hq⟩ : ∃ q, q = L[i].1 := ⟨_, rfl⟩
              rw [← hq] at hcl2 hgq
              have hq2 : 2 ≤ q := hgq.2.1.1
              have hqd : q ∣ n := by
                have := M.dvd_prodP (List.getElem_mem hiL) hgq.2.2
                rw [HLF.out.2, ← hq] at this; exact this
              have hqle : q ≤ n := Nat.le_of_dvd (by omega) hqd
              obtain ⟨d, hdd⟩ : ∃ d, d = n / q := ⟨_, rfl⟩
              have hdle : d ≤ n := by rw [hdd]; exact Nat.div_le_self _ _
              have z1 : (n : Int) / (q : Int) = (d : Int) := by rw [hdd]; rfl
              have z2 : (n : Int).tdiv (q : Int) = (d : Int) := by rw [hdd]; rfl
              have hzq : ((q : Int) == 0) = false := by rw [beq_eq_false_iff_ne]; omega
              have HQP : Hid (M.Pr q) := hgq.2.1
              have HQD := Lib.hid hqd
              have HDD := Lib.hid hdd
              have HQE := Lib.hid hq
              clear hcl hgq hq hqd hdd
              by_cases hkd : k + 1 = d
              · have t1 : ((K : Int) == (d : Int)) = true := by rw [beq_iff_eq]; have := HKk.out; omega
                have HRYi : Hid (Rd wr (.slice by3 Y.length cy3) 1 Y.length (nats Y)) := HRY3.out.below HBi.out (Nat.le_refl _)
                have HRXi : Hid (Rd wr (.slice (some ⟨w.heap.size, 0, none⟩) 2 2) 1 [0, 1].length (nats [0, 1])) := HRX3.out.below HBi.out (Nat.le_refl _)
                have HKD := Lib.hid hkd
                clear hkd
                go_wp2_with (fail)
                refine (rSub_is p Y [0, 1] _ _ _ hp hp2 HRYi HRXi (Lib.hid HPZ.out.red) (Lib.hid HXP.out.red) (by omega) (by simp)).mono ?_
                rintro e w4 ⟨⟨vd, rfl, hNd⟩, hB4⟩
                rw [← HDE.out] at hNd
                have HRD4 : Hid (Rd w4 vd 1 D.length (nats D)) := hNd.rd
                obtain ⟨bd, cd, hvd⟩ := hNd.rd.shape
                subst hvd
                have HB4 := Lib.hid (HBi.out.trans (hB4.mono HBi.out.size))
                have HRF4 : Hid (Rd w4 (.slice a (n + 1) c) 1 F.length (nats F)) := HRF3.out.below HB4.out (Nat.le_refl _)
                clear hNd hB4
                go_wp2_with (fail)
                refine (rgcd_is p F D _ _ _ hP hp2 HRF4 HRD4 hF HPD (by omega) (by omega)).mono ?_
                rintro e w5 ⟨⟨vg, rfl, hNg⟩, hB5⟩
                rw [← HGE.out] at hNg
                obtain ⟨bg, cg, hvg⟩ := hNg.rd.shape
                subst hvg
                have HB5 := Lib.hid (HB4.out.trans (hB5.mono HB4.out.size))
                have HBW := Lib.hid (HB1.out.trans ((HB3.out.trans (HB5.out.mono HB3.out.size)).mono HB1.out.size))
                obtain ⟨gl, hgl⟩ : ∃ gl, gl = G.length := ⟨_, rfl⟩
                rw [← hgl]
                have HGL := Lib.hid hgl
                clear hNg hB5 hgl
                by_cases hg1 : 1 < gl
                · have HT : Hid (false = t) := by
                    cases t with
                    | false => rfl
                    | true =>
                      have h5 := (HRAB.out.2 (ht.out.2 rfl)).gcds q HQP.out HQD.out
                      rw [← HDD.out, ← HKD.out, ← HYE.out, ← HDE.out, ← HGE.out, ← HGL.out] at h5
                      omega
                  have t2 : decide ((1 : Int) < (gl : Int)) = true := by rw [decide_eq_true_iff]; omega
                  clear hg1
                  go_wp2_with (fail)
                  go_ret
                  exact ⟨by rw [← HT.out]; rfl, HBW.out⟩
                · have t2 : decide ((1 : Int) < (gl : Int)) = false := by rw [decide_eq_false_iff_not]; omega
                  have HI2 : Hid (∀ j (h : j < L.length), j < i + 1 → k + 1 = n / L[j].1 → G.length ≤ 1) := fun j h h1 h2 => by
                    have := HGL.out; omega
                  clear hg1
                  go_wp2_with (fail)
                  go_roundw
                  case rel => exact ⟨i + 1, by go_num, by omega, HI2, HB5⟩
                  case measure => simp [intOf]; omega
              · have t1 : ((K : Int) == (d : Int)) = false := by rw [beq_eq_false_iff_ne]; have := HKk.out; omega
                have HI2 : Hid (∀ j (h : j < L.length), j < i + 1 → k + 1 = n / L[j].1 → G.length ≤ 1) := fun j h h1 h2 => by
                  by_cases e : j = i
                  · subst e
                    rw [← HQE.out, ← HDD.out] at h2
                    exact absurd h2 hkd
                  · exact HI.out j h (by omega) h2
                clear hkd
                go_wp2_with (fail)
                go_roundw
                case rel => exact ⟨i + 1, by go_num, by omega, HI2, HBi⟩
                case measure => simp [intOf]; omega
            · have him2 : i = m := by omega
              subst him2
              have HG2 : Hid (∀ q, M.Pr q → q ∣ n → n / q ≤ k + 1 → (Q.gcdP p F (Q.difP p (Q.yR p F (n / q)) [0, 1])).length ≤ 1) := fun q hq hqn h => by
                by_cases e : n / q = k + 1
                · obtain ⟨x, hx, hxq⟩ := HLF.out.1.mem_of_dvd hq (by rw [HLF.out.2]; exact hqn)
                  obtain ⟨j, hj, rfl⟩ := List.getElem_of_mem hx
                  have h5 := HI.out j hj (by have := HM.out; omega) (by rw [hxq]; exact e.symm)
                  rw [e, ← HYE.out, ← HDE.out, ← HGE.out]; exact h5
                · exact HG.out q hq hqn (by omega)
              have HRYi : Hid (Rd wr (.slice by3 Y.length cy3) 1 (Q.yR p F (k + 1)).length (nats (Q.yR p F (k + 1)))) := by rw [← HYE.out]; exact HRY3.out.below HBi.out (Nat.le_refl _)
              have HMY2 : Hid (Y.length = (Q.yR p F (k + 1)).length) := by show _ = _; rw [HYE.out]
              have HKk2 : Hid (K + 1 = k + 1 + 1) := by have := HKk.out; show _ = _; omega
              clear HI
              go_wp2_with (fail)
              go_roundw
              case rel => exact ⟨K + 1, k + 1, _, cy3, by3, rfl, by go_num, by omega, by omega, HKk2, HMY2, HRYi, HG2, HB13⟩
              case measure => simp [intOf]; omega
        · have hkn : k = n := by omega
          subst hkn
          have hle : ¬ K ≤ k := by have := HKk.out; omega
          have hyl : (Q.yR p F k).length ≤ 34 := by have := (HY.out k).2.1; have := HN.out; omega
          have HT : Hid (Q.yR p F k = [0, 1] ↔ t = true) := by
            rw [← ht.out, ← HRAB.out]
            exact ⟨fun h => ⟨h, fun q hq hqn => HG.out q hq hqn (Nat.div_le_self _ _)⟩, fun h => h.last⟩
          have HBW := Lib.hid (HB1.out.trans (HB.out.mono HB1.out.size))
          clear HG
          go_wp2_with (fail)
          refine (Same_is (Q.yR p F k) [0, 1] _ _ t _ HRY HRX2 (by omega) (by simp) HT).mono ?_
          rintro e w5 ⟨rfl, nn, hw⟩
          have HB5 : Hid (Below w.heap.size w w5) := by rw [hw]; exact below_drewN HBW.out _
          clear hw
          go_wp2_with (fail)
          go_ret
          exact ⟨rfl, HB5.out⟩

end Go.Proofs.Ytgnpohapmijfiaa

namespace Go.Proofs.Ytgnpohapmijfiaa
namespace Q
variable {p : Nat}

def numP (p : Nat) : List Nat → Nat
  | [] => 0
  | a :: f => a + p * numP p f
theorem num_inj (_hp : 0 < p) : ∀ {f g : List Nat}, f.length = g.length → Red p f → Red p g → numP p f = numP p g → f = g
  | [], [], _, _, _, _ => rfl
  | [], _ :: _, h, _, _, _ => by simp at h
  | _ :: _, [], h, _, _, _ => by simp at h
  | a :: f, b :: g, h, hf, hg, e => by
    rw [numP, numP] at e
    have ha := hf a (by simp)
    have hb := hg b (by simp)
    have h1 : (a + p * numP p f) % p = a := by rw [Nat.add_mul_mod_self_left]; exact Nat.mod_eq_of_lt ha
    have h2 : (b + p * numP p g) % p = b := by rw [Nat.add_mul_mod_self_left]; exact Nat.mod_eq_of_lt hb
    have hab : a = b := by rw [← h1, e, h2]
    subst hab
    have h3 : numP p f = numP p g := Nat.eq_of_mul_eq_mul_left (by omega) (Nat.add_left_cancel e)
    rw [num_inj _hp (by simpa using h) (fun x hx => hf x (by simp [hx])) (fun x hx => hg x (by simp [hx])) h3]

theorem num_lt (hp : 0 < p) : ∀ {f : List Nat}, Red p f → numP p f + 1 ≤ p ^ f.length
  | [], _ => by simp [numP]
  | a :: f, h => by
    have ih := num_lt hp (f := f) fun x hx => h x (by simp [hx])
    have ha := h a (by simp)
    rw [numP, List.length_cons, Nat.pow_succ]
    have h1 := Nat.mul_le_mul_left p ih
    rw [Nat.mul_add, Nat.mul_one] at h1
    rw [Nat.mul_comm (p ^ f.length)]; omega

theorem num_top (hp : 0 < p) : ∀ {f : List Nat}, (∀ j, j < f.length → f.getD j 0 = p - 1) → numP p f + 1 = p ^ f.length
  | [], _ => by simp [numP]
  | a :: f, h => by
    have ih := num_top hp (f := f) fun j hj => by have := h (j + 1) (by simpa using hj); simpa using this
    have ha : a = p - 1 := by have := h 0 (by simp); simpa using this
    rw [numP, List.length_cons, Nat.pow_succ, ← ih, Nat.add_mul, Nat.one_mul, Nat.mul_comm (numP p f), ha]; omega

theorem adv_is (hp : 2 ≤ p) : ∀ {f : List Nat}, Red p f → (∃ j, j < f.length ∧ f.getD j 0 ≠ p - 1) → (advanceP p f).length = f.length ∧ Red p (advanceP p f) ∧ numP p (advanceP p f) = numP p f + 1 ∧ ∀ t, advanceP p (f ++ t) = advanceP p f ++ t
  | [], _, ⟨j, hj, _⟩ => by simp at hj
  | a :: f, h, ⟨j, hj, hne⟩ => by
    by_cases ha : a = p - 1
    · have hj0 : ∃ j, j < f.length ∧ f.getD j 0 ≠ p - 1 := by
        cases j with
        | zero => simp at hne; exact absurd ha hne
        | succ j => exact ⟨j, by simpa using hj, by simpa using hne⟩
      obtain ⟨i1, i2, i3, i4⟩ := adv_is hp (f := f) (fun x hx => h x (by simp [hx])) hj0
      have e : advanceP p (a :: f) = 0 :: advanceP p f := by rw [advanceP, if_pos ha]
      rw [e]
      refine ⟨by simp [i1], fun x hx => ?_, ?_, fun t => ?_⟩
      · rcases List.mem_cons.1 hx with rfl | hx
        · omega
        · exact i2 x hx
      · rw [numP, numP, i3, Nat.mul_add]; omega
      · rw [List.cons_append, advanceP, if_pos ha, i4 t]; rfl
    · have e : advanceP p (a :: f) = (a + 1) :: f := by rw [advanceP, if_neg ha]
      have hap := h a (by simp)
      rw [e]
      refine ⟨rfl, fun x hx => ?_, by rw [numP, numP]; omega, fun t => by rw [List.cons_append, advanceP, if_neg ha]; rfl⟩
      rcases List.mem_cons.1 hx with rfl | hx
      · omega
      · exact h x (by simp [hx])

theorem monic_pol (hp : 2 ≤ p) {f : List Nat} (hf : Red p f) : Pol p (f ++ [1]) := by
  refine pol_of (fun x hx => ?_) (.inr (by simp [List.getD]))
  rcases List.mem_append.1 hx with h | h
  · exact hf x h
  · simp at h; omega

structure FirstIs (p n : Nat) (r : List Nat) (f : List Nat) : Prop where
  len : r.length = n
  red : Red p r
  irr : Irr p (r ++ [1])
  ok : ∃ N, FirstOk p (r ++ [1]) N (f ++ [1])
  ge : numP p f ≤ numP p r
  no : ∀ h, h.length = n → Red p h → numP p f ≤ numP p h → numP p h < numP p r → ¬ Irr p (h ++ [1])

theorem first_is (hP : M.Pr p) {n : Nat} {g : List Nat} (hgl : g.length = n) (hgr : Red p g) (hg : Irr p (g ++ [1])) : ∀ (m : Nat) {f : List Nat}, f.length = n → Red p f → numP p f + m = numP p g → ∃ r, FirstIs p n r f := by
  have hp2 := hP.1
  have hp : 0 < p := by omega
  intro m
  induction m with
  | zero =>
    intro f hfl hfr e
    have hfg := num_inj hp (by omega) hfr hgr (by omega)
    subst hfg
    exact ⟨f, hfl, hfr, hg, ⟨1, monic_pol hp2 hfr, .inl ⟨irr_false hP hg, rfl⟩⟩, Nat.le_refl _, fun h _ _ h1 h2 => by omega⟩
  | succ m ih =>
    intro f hfl hfr e
    have hpol := monic_pol hp2 hfr
    cases hirr : irredP p (f ++ [1]) with
    | true => exact ⟨f, hfl, hfr, irr_true hP hpol hirr, ⟨1, hpol, .inl ⟨hirr, rfl⟩⟩, Nat.le_refl _, fun h _ _ h1 h2 => by omega⟩
    | false =>
      have hj : ∃ j, j < f.length ∧ f.getD j 0 ≠ p - 1 := Classical.byContradiction fun hc => by
        have h1 := num_top hp (f := f) fun j hj => Classical.byContradiction fun hne => hc ⟨j, hj, hne⟩
        have h2 := num_lt hp hgr
        rw [hgl] at h2
        rw [hfl] at h1
        omega
      obtain ⟨i1, i2, i3, i4⟩ := adv_is hp2 hfr hj
      obtain ⟨r, R⟩ := ih (f := advanceP p f) (by omega) i2 (by omega)
      obtain ⟨N, hN⟩ := R.ok
      have hge := R.ge
      obtain ⟨j, hj1, hj2⟩ := hj
      refine ⟨r, R.len, R.red, R.irr, ⟨N + 1, hpol, .inr ⟨hirr, ⟨j, by simp; omega, ?_⟩, by rw [i4]; simp [i1], by rw [i4]; exact hN⟩⟩, by omega, fun h hl hr h1 h2 hi => ?_⟩
      · rw [List.getD_eq_getElem?_getD, List.getElem?_append_left hj1, ← List.getD_eq_getElem?_getD]; exact hj2
      · by_cases e2 : numP p h = numP p f
        · have := num_inj hp (by omega) hr hfr e2
          subst this
          rw [irr_false hP hi] at hirr; cases hirr
        · exact R.no h hl hr (by omega) h2 hi

theorem num_zero (p : Nat) : ∀ n, numP p (List.replicate n 0) = 0
  | 0 => rfl
  | n + 1 => by rw [List.replicate_succ, numP, num_zero p n]; simp

theorem first_exists (hP : M.Pr p) {n : Nat} (h1 : 1 ≤ n) : ∃ r, FirstIs p n r (List.replicate n 0) := by
  have hp2 := hP.1
  obtain ⟨g, hg, hgl⟩ := exists_deg hP n h1
  have hsplit : g = g.take n ++ [1] := by
    have e1 : g = g.take n ++ g.drop n := (List.take_append_drop n g).symm
    have e2 : g.drop n = [g.getD n 0] := by
      rw [List.drop_eq_getElem_cons (show n < g.length by omega), List.drop_of_length_le (by omega), getD_get (by omega)]
    have e3 : g.getD n 0 = 1 := by have := hg.mon.2; rw [hgl, Nat.add_sub_cancel] at this; exact this
    rw [e2, e3] at e1
    exact e1
  have hir := hg.irr
  rw [hsplit] at hir
  exact first_is hP (n := n) (g := g.take n) (by rw [List.length_take]; omega) (hg.irr.pol.red.take n) hir (numP p (g.take n)) (by simp) (fun x hx => by rw [(List.mem_replicate.1 hx).2]; omega) (by rw [num_zero, Nat.zero_add])

/-- The preceding polynomial. -/
theorem num_pred (hp : 1 ≤ p) (a : Nat) (r : List Nat) : ∀ i, numP p (List.replicate i (p - 1) ++ a :: r) + 1 = numP p (List.replicate i 0 ++ (a + 1) :: r)
  | 0 => by simp [numP]; omega
  | i + 1 => by
    have ih := num_pred hp a r i
    rw [List.replicate_succ, List.replicate_succ, List.cons_append, List.cons_append, numP, numP, ← ih, Nat.mul_add]; omega

end Q
end Go.Proofs.Ytgnpohapmijfiaa
