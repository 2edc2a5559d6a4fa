/- A run of a call that is handed no memory: what append makes of the blocks. -/
import Derived.Test.YtapidabhdbjnmaaRnm
namespace Go.Proofs.Ytapidabhdbjnmaa
namespace Rn

variable {P : Program} {p : Pl} {c : Ctx} {s s' : St} {w : World}

theorem get_of_put {s : St} {b : Nat} {x : Option Blk} {d : Nat} {y : Blk} (hb : b < most) (h : (s.put b x).heap.get d = some y) : (d = b ∧ x = some y) ∨ (d ≠ b ∧ s.heap.get d = some y) := by
  rw [St.get_put] at h
  by_cases hc : b = d
  · subst hc
    rw [if_pos ⟨rfl, hb⟩] at h
    exact .inl ⟨rfl, h⟩
  · rw [if_neg (fun e => hc e.1)] at h
    exact .inr ⟨fun e => hc e.symm, h⟩

/-- A block that is only read from now on. -/
theorem M.stale (h : M c p s w) {b : Nat} {cl : List Value} {e : TypeId} {es : Nat} {olds : List Nat} (hg : s.heap.get b = some (.cells cl e es olds true)) : M c p (s.put b (some (.cells cl e es [] false))) w := by
  have hb := (h.pres b _ hg).1
  have hn : (s.put b (some (.cells cl e es [] false))).next = s.next := rfl
  refine ⟨h.keep, h.fresh, h.ng, h.glob, ?_, ?_, ?_, ?_, ⟨h.okk.1, fun d y hd => ?_⟩, h.pk⟩
  · intro d y hd
    rcases get_of_put hb hd with ⟨e1, e2⟩ | ⟨_, h2⟩
    · subst e1
      injection e2 with e2
      subst e2
      obtain ⟨k1, r, sz, o, k2, k3, k4, k5⟩ := h.pres d _ hg
      refine ⟨k1, r, sz, o, k2, fun h => (by cases h), k4, ?_⟩
      cases k5 with
      | cells hs hc => exact .cells hs hc
    · exact h.pres d y h2
  · intro b1 b2 x1 x2 r s1 s2 g1 g2 hl p1 p2
    rcases get_of_put hb g1 with ⟨e1, e2⟩ | ⟨h1, h3⟩
    · injection e2 with e2; subst e2; cases hl
    · rcases get_of_put hb g2 with ⟨f1, f2⟩ | ⟨k1, k3⟩
      · subst f1; exact h.sep b1 b2 _ _ _ _ _ h3 hg hl p1 p2
      · exact h.sep b1 b2 _ _ _ _ _ h3 k3 hl p1 p2
  · intro b1 b2 x1 x2 g1 g2 hl hm
    rcases get_of_put hb g1 with ⟨e1, e2⟩ | ⟨h1, h3⟩
    · injection e2 with e2; subst e2; cases hl
    · rcases get_of_put hb g2 with ⟨f1, f2⟩ | ⟨k1, k3⟩
      · subst f1
        have := (h.dead b1 b2 _ _ h3 hg hl hm).1
        cases this
      · exact h.dead b1 b2 _ _ h3 k3 hl hm
  · intro b1 b2 x1 g1 hm
    rcases get_of_put hb g1 with ⟨e1, e2⟩ | ⟨h1, h3⟩
    · injection e2 with e2; subst e2; cases hm
    · exact h.olds b1 b2 x1 h3 hm
  · rcases get_of_put hb hd with ⟨e1, e2⟩ | ⟨_, h3⟩
    · subst e1; injection e2 with e2; subst e2; exact ⟨(h.okk.2 _ _ hg).1, fun b2 h2 => (by cases h2), (h.okk.2 _ _ hg).2.2⟩
    · exact h.okk.2 d y h3

/-- A block grows in place: it has a new name, and a new list. -/
theorem M.grow (h : M c p s w) {b r sz es : Nat} {cl news : List Value} {e : TypeId} {olds : List Nat} (hg : s.heap.get b = some (.cells cl e es olds true)) (hp : p b = some (r, sz, es))
    {w' : World} {cs cs' : Array Value} (hw : w.heap[r]? = some (.cells cs e (0, 0))) (hw' : w'.heap[r]? = some (.cells cs' e (0, 0))) (hsz : cs'.size = cs.size)
    (hoth : ∀ k, k ≠ r → w'.heap[k]? = w.heap[k]?) (hsame : ∀ j, j < cl.length → cs'[j]? = cs[j]?) (hnew : ∀ j v, news[j]? = some v → ∃ v', cs'[cl.length + j]? = some v' ∧ VR p v v') (hk : Keep c w') :
    p.le (p.add s.next r sz es) ∧ M c (p.add s.next r sz es) ((s.put b (some (.cells cl e es [] false))).new (.cells (cl ++ news) e es (b :: olds) true)) w' := by
  have hle : p.le (p.add s.next r sz es) := Pl.le_add (h.fresh _ (Nat.le_refl _))
  have hbm := (h.pres b _ hg).1
  have hbn := h.lt hg
  obtain ⟨_, r0, sz0, o0, hp0, hown, hr0, hb0⟩ := h.pres b _ hg
  have hpq : p b = some (r0, sz0, es) := hp0
  rw [hp] at hpq
  injection hpq with e1
  have er : r = r0 := congrArg Prod.fst e1
  have esz : sz = sz0 := congrArg (fun x => x.2.1) e1
  subst er; subst esz
  rw [hw] at hr0
  injection hr0 with hr0
  subst hr0
  have hcs : cs.size = sz ∧ ∀ (i : Nat) (v : Value), cl[i]? = some v → ∃ v', cs[i]? = some v' ∧ VR p v v' := by
    cases hb0 with
    | cells hs hc => exact ⟨hs, hc⟩
  have hget : ∀ d y, ((s.put b (some (.cells cl e es [] false))).new (.cells (cl ++ news) e es (b :: olds) true)).heap.get d = some y →
      (d = s.next ∧ d < most ∧ y = .cells (cl ++ news) e es (b :: olds) true) ∨ (d ≠ s.next ∧ d = b ∧ y = .cells cl e es [] false) ∨ (d ≠ s.next ∧ d ≠ b ∧ s.heap.get d = some y) := fun d y hd => by
    have hd : (T.set (some (Blk.cells (cl ++ news) e es (b :: olds) true)) (s.put b (some (.cells cl e es [] false))).heap s.next).get d = some y := hd
    rw [T.get_set] at hd
    by_cases hc : s.next = d ∧ s.next < most
    · rw [if_pos hc] at hd
      injection hd with hd
      exact .inl ⟨hc.1.symm, hc.1 ▸ hc.2, hd.symm⟩
    · rw [if_neg hc] at hd
      rcases get_of_put hbm hd with ⟨f1, f2⟩ | ⟨f1, f2⟩
      · injection f2 with f2
        exact .inr (.inl ⟨by omega, f1, f2.symm⟩)
      · have := h.lt f2
        exact .inr (.inr ⟨by omega, f1, f2⟩)
  have hpn : ∀ d, d ≠ s.next → p.add s.next r sz es d = p d := fun d hd => by unfold Pl.add; rw [if_neg hd]
  have hpnew : p.add s.next r sz es s.next = some (r, sz, es) := by simp [Pl.add]
  refine ⟨hle, ⟨hk, ?_, Nat.le_succ_of_le h.ng, ?_, ?_, ?_, ?_, ?_, ⟨fun d hd => h.okk.1 d (Nat.le_of_succ_le hd), fun d y hd => ?_⟩, Nat.le_succ_of_le h.pk.1, fun d hd => by have := h.pk.1; rw [hpn d (by omega)]; exact h.pk.2 d hd⟩⟩
  · intro d hd
    have hd : s.next + 1 ≤ d := hd
    rw [hpn d (by omega)]
    exact h.fresh d (by omega)
  · intro g r1 z hgl hpg
    rw [hpn g (by have := h.ng; omega)] at hpg
    exact h.glob g r1 z hgl hpg
  · intro d y hd
    rcases hget d y hd with ⟨f1, f2, f3⟩ | ⟨f1, f2, f3⟩ | ⟨f1, f2, f3⟩
    · subst f1; subst f3
      refine ⟨f2, r, sz, _, hpnew, fun _ => hown rfl, hw', .cells (by rw [hsz, hcs.1]) fun i v hv => ?_⟩
      rw [List.getElem?_append] at hv
      split at hv
      · rename_i hi
        obtain ⟨v', g1, g2⟩ := hcs.2 i v hv
        exact ⟨v', by rw [hsame i hi]; exact g1, g2.le hle⟩
      · rename_i hi
        obtain ⟨v', g1, g2⟩ := hnew _ v hv
        exact ⟨v', by rw [← g1]; congr 1; omega, g2.le hle⟩
    · subst f2; subst f3
      refine ⟨hbm, r, sz, _, by rw [hpn d f1]; exact hp, fun h => (by cases h), hw', .cells (by rw [hsz, hcs.1]) fun i v hv => ?_⟩
      obtain ⟨v', g1, g2⟩ := hcs.2 i v hv
      have hi : i < cl.length := by
        rcases Nat.lt_or_ge i cl.length with h | h
        · exact h
        · rw [List.getElem?_eq_none h] at hv; cases hv
      exact ⟨v', by rw [hsame i hi]; exact g1, g2.le hle⟩
    · obtain ⟨k1, r2, sz2, o2, k2, k3, k4, k5⟩ := h.pres d y f3
      by_cases hr : r2 = r
      · subst hr
        rcases h.sep b d _ _ _ _ _ hg f3 rfl hp k2 with h5 | h5
        · exact (f2 h5.symm).elim
        · obtain ⟨_, hlen⟩ := h.dead b d _ _ hg f3 rfl h5
          rw [hw] at k4
          injection k4 with k4
          subst k4
          cases k5 with
          | cells hs2 hc2 =>
            refine ⟨k1, r2, sz2, _, by rw [hpn d f1]; exact k2, k3, hw', .cells (by rw [hsz]; exact hs2) fun i v hv => ?_⟩
            obtain ⟨v', g1, g2⟩ := hc2 i v hv
            have hi : i < cl.length := by
              rcases Nat.lt_or_ge i cl.length with h | h
              · exact h
              · rw [List.getElem?_eq_none (Nat.le_trans hlen h)] at hv; cases hv
            exact ⟨v', by rw [hsame i hi]; exact g1, g2.le hle⟩
      · exact ⟨k1, r2, sz2, o2, by rw [hpn d f1]; exact k2, k3, by rw [hoth r2 hr]; exact k4, k5.le hle⟩
  · intro b1 b2 x1 x2 r1 s1 s2 g1 g2 hl p1 p2
    rcases hget b1 x1 g1 with ⟨f1, f2, f3⟩ | ⟨f1, f2, f3⟩ | ⟨f1, f2, f3⟩
    · subst f1; subst f3
      rw [hpnew] at p1
      injection p1 with p1
      have : r = r1 := congrArg Prod.fst p1
      subst this
      rcases hget b2 x2 g2 with ⟨k1, k2, k3⟩ | ⟨k1, k2, k3⟩ | ⟨k1, k2, k3⟩
      · exact .inl k1.symm
      · exact .inr (by subst k2; simp [Blk.olds])
      · rw [hpn b2 k1] at p2
        rcases h.sep b b2 _ _ _ _ _ hg k3 rfl hp p2 with h5 | h5
        · exact (k2 h5.symm).elim
        · have h5 : b2 ∈ olds := h5
          exact .inr (by simp [Blk.olds, h5])
    · subst f3; cases hl
    · rw [hpn b1 f1] at p1
      rcases hget b2 x2 g2 with ⟨k1, k2, k3⟩ | ⟨k1, k2, k3⟩ | ⟨k1, k2, k3⟩
      · subst k1
        rw [hpnew] at p2
        injection p2 with p2
        have : r = r1 := congrArg Prod.fst p2
        subst this
        rcases h.sep b b1 _ _ _ _ _ hg f3 rfl hp p1 with h5 | h5
        · exact (f2 h5.symm).elim
        · have := (h.dead b b1 _ _ hg f3 rfl h5).1
          rw [hl] at this; cases this
      · subst k2
        rw [hpn b2 k1] at p2
        exact h.sep b1 b2 _ _ _ _ _ f3 hg hl p1 p2
      · rw [hpn b2 k1] at p2
        exact h.sep b1 b2 _ _ _ _ _ f3 k3 hl p1 p2
  · intro b1 b2 x1 x2 g1 g2 hl hm
    rcases hget b1 x1 g1 with ⟨f1, f2, f3⟩ | ⟨f1, f2, f3⟩ | ⟨f1, f2, f3⟩
    · subst f1; subst f3
      have hm : b2 ∈ b :: olds := hm
      rcases hget b2 x2 g2 with ⟨k1, k2, k3⟩ | ⟨k1, k2, k3⟩ | ⟨k1, k2, k3⟩
      · exfalso
        rcases List.mem_cons.1 hm with e | e
        · omega
        · have := h.olds b b2 _ hg e; omega
      · subst k3; exact ⟨rfl, by simp [Blk.len]⟩
      · rcases List.mem_cons.1 hm with e | e
        · exact (k2 e).elim
        · obtain ⟨q1, q2⟩ := h.dead b b2 _ _ hg k3 rfl e
          have q2 : x2.len ≤ cl.length := q2
          exact ⟨q1, Nat.le_trans q2 (by show cl.length ≤ (cl ++ news).length; simp)⟩
    · subst f3; cases hl
    · rcases hget b2 x2 g2 with ⟨k1, k2, k3⟩ | ⟨k1, k2, k3⟩ | ⟨k1, k2, k3⟩
      · have := h.olds b1 b2 _ f3 hm; omega
      · subst k2
        have := (h.dead b1 b2 _ _ f3 hg hl hm).1
        cases this
      · exact h.dead b1 b2 _ _ f3 k3 hl hm
  · intro b1 b2 x1 g1 hm
    show b2 < s.next + 1
    rcases hget b1 x1 g1 with ⟨f1, f2, f3⟩ | ⟨f1, f2, f3⟩ | ⟨f1, f2, f3⟩
    · subst f3
      have hm : b2 ∈ b :: olds := hm
      rcases List.mem_cons.1 hm with e | e
      · omega
      · have := h.olds b b2 _ hg e; omega
    · subst f3; cases hm
    · have := h.olds b1 b2 _ f3 hm; omega
  · rcases hget d y hd with ⟨f1, f2, f3⟩ | ⟨f1, f2, f3⟩ | ⟨f1, f2, f3⟩
    · subst f1; subst f3
      refine ⟨h.okk.1 _ (Nat.le_refl _), fun b2 h2 => ?_, fun r1 z hp1 => ?_⟩
      · have h2 : b2 ∈ b :: olds := h2
        rcases List.mem_cons.1 h2 with e | e
        · rw [e]; exact (h.okk.2 _ _ hg).1
        · exact (h.okk.2 _ _ hg).2.1 b2 e
      · rw [hpnew] at hp1
        injection hp1 with hp1
        have : r = r1 := congrArg Prod.fst hp1
        rw [← this]; exact (h.okk.2 _ _ hg).2.2 _ _ hp
    · subst f2; subst f3; exact ⟨(h.okk.2 _ _ hg).1, fun b2 h2 => (by cases h2), fun r1 z hp1 => (h.okk.2 _ _ hg).2.2 r1 z (by rw [← hpn d f1]; exact hp1)⟩
    · obtain ⟨k1, k2, k3⟩ := h.okk.2 d y f3
      exact ⟨k1, k2, fun r1 z hp1 => k3 r1 z (by rw [← hpn d f1]; exact hp1)⟩

end Rn
end Go.Proofs.Ytapidabhdbjnmaa
