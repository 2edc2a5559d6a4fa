/- Rows of a tableau in memory, each in a block of its own. -/
import Derived.Test.YtapidabhdbjnmaaTa
import Derived.Maps.AppendAt
namespace Go.Proofs.Ytapidabhdbjnmaa
open Go.RowKit

/-- No two rows lie in one block. -/
def Dist (vs : List Value) : Prop := ∀ (i j : Nat) (u v : Value) (g : Nat), i ≠ j → vs[i]? = some u → vs[j]? = some v → u.ownBlock = some g → v.ownBlock ≠ some g
theorem Dist.nil : Dist [] := fun i j u v g _ hu _ _ => by simp at hu
theorem Dist.snoc {vs : List Value} {x : Value} (h : Dist vs) (hf : ∀ g, x.ownBlock = some g → ∀ t ∈ vs, t.ownBlock ≠ some g) : Dist (vs ++ [x]) := fun i j u v g hij hu hv hg => by
  rw [List.getElem?_append] at hu hv
  split at hu
  · split at hv
    · exact h i j u v g hij hu hv hg
    · next h1 h2 =>
      have e : j - vs.length = 0 := by
        rcases Nat.eq_zero_or_pos (j - vs.length) with e | e
        · exact e
        · rw [List.getElem?_eq_none (by simp; omega)] at hv; cases hv
      rw [e] at hv
      simp at hv
      subst hv
      intro e2
      exact hf g e2 u (List.mem_of_getElem? hu) hg
  · next h1 =>
    have e : i - vs.length = 0 := by
      rcases Nat.eq_zero_or_pos (i - vs.length) with e | e
      · exact e
      · rw [List.getElem?_eq_none (by simp; omega)] at hu; cases hu
    rw [e] at hu
    simp at hu
    subst hu
    split at hv
    · intro e2
      exact hf g hg v (List.mem_of_getElem? hv) e2
    · next h2 =>
      have e3 : j - vs.length = 0 := by
        rcases Nat.eq_zero_or_pos (j - vs.length) with e | e
        · exact e
        · rw [List.getElem?_eq_none (by simp; omega)] at hv; cases hv
      omega
theorem Dist.setAt {vs : List Value} (h : Dist vs) {k : Nat} {x : Value} (hx : ∀ (j : Nat) (u : Value) (g : Nat), j ≠ k → vs[j]? = some u → u.ownBlock = some g → x.ownBlock ≠ some g) : Dist (vs.set k x) := fun i j u v g hij hu hv hg => by
  rw [List.getElem?_set] at hu hv
  by_cases h1 : k = i
  · rw [if_pos h1] at hu
    split at hu
    · injection hu with hu; subst hu
      rw [if_neg (by omega)] at hv
      intro e
      exact hx j v g (by omega) hv e hg
    · cases hu
  · rw [if_neg h1] at hu
    by_cases h2 : k = j
    · rw [if_pos h2] at hv
      split at hv
      · injection hv with hv; subst hv
        exact hx i u g (by omega) hu hg
      · cases hv
    · rw [if_neg h2] at hv
      exact h i j u v g hij hu hv hg

structure Tab (w wr : World) (v : Value) (vs : List Value) (Ms : List (List Nat)) : Prop where
  m : MxV w wr v vs Ms
  d : Dist vs
theorem Tab.nil {w wr : World} (hB : Below w.heap.size w wr) : Tab w wr (.slice none 0 0) [] [] := ⟨MxV.nil hB, Dist.nil⟩
theorem Tab.low {w wr wx : World} {v : Value} {vs : List Value} {Ms : List (List Nat)} (h : Tab w wr v vs Ms) (hB : Below wr.heap.size wr wx) : Tab w wx v vs Ms := ⟨h.m.low hB, h.d⟩
theorem Tab.from {w0 w wr : World} {v : Value} {vs : List Value} {Ms : List (List Nat)} (h : Tab w wr v vs Ms) (hB : Below w0.heap.size w0 w) : Tab w0 wr v vs Ms := ⟨h.m.from hB, h.d⟩
theorem Tab.lt {w wr : World} {v : Value} {vs : List Value} {Ms : List (List Nat)} (h : Tab w wr v vs Ms) : ∀ u ∈ vs, ∀ g, u.ownBlock = some g → g < wr.heap.size := fun u hu g hg => by
  obtain ⟨i, hi, rfl⟩ := List.getElem_of_mem hu
  have h1 := h.m.vlen
  exact ((h.m.rows i _ (Ms[i]'(by omega)) (List.getElem?_eq_getElem hi) (List.getElem?_eq_getElem (by omega))).lt g hg).2

/-- A row is appended. -/
theorem Tab.push {w wr wx : World} {v v' u : Value} {vs : List Value} {Ms : List (List Nat)} {M : List Nat} {o : Obj} (h : Tab w wr v vs Ms) (hu : wr.ownsRow w.heap.size 3 1 u M.length (nats M)) (hf : ∀ g, u.ownBlock = some g → ∀ t ∈ vs, t.ownBlock ≠ some g)
    (hown : wx.ownsRow w.heap.size 22 1 v' (Ms.length + 1) (vs ++ [u])) (hg : (wr.alloc o).grownBy wx v.ownBlock) : Tab w wx v' (vs ++ [u]) (Ms ++ [M]) :=
  ⟨h.m.append hu hown hg, h.d.snoc hf⟩

/-- A row is written, and takes its new place. -/
theorem Tab.grow {w wr wa wx : World} {b n cap i : Nat} {vs : List Value} {Ms : List (List Nat)} {u u' : Value} {M : List Nat} (h : Tab w wr (.slice (some ⟨b, 0, none⟩) n cap) vs Ms) (hi : vs[i]? = some u)
    (hBa : Below wr.heap.size wr wa) (hg : wa.grownBy wx u.ownBlock) (hown : wx.ownsRow w.heap.size 3 1 u' M.length (nats M)) (hnew : u'.ownBlock = u.ownBlock ∨ ∃ q, u'.ownBlock = some q ∧ wr.heap.size ≤ q) :
    Tab w (wx.setCell ⟨b, i, none⟩ u') (.slice (some ⟨b, 0, none⟩) n cap) (vs.set i u') (Ms.set i M) := by
  have hvl := h.m.vlen
  have hil : i < vs.length := by
    rcases Nat.lt_or_ge i vs.length with e | e
    · exact e
    · rw [List.getElem?_eq_none e] at hi; cases hi
  have hold := h.m.rows i u (Ms[i]'(by omega)) hi (List.getElem?_eq_getElem (by omega))
  have hO1 : wx.ownsRow w.heap.size 22 1 (.slice (some ⟨b, 0, none⟩) n cap) Ms.length vs :=
    (own_kept h.m.own hBa).kept hg (own_ty_ne2 h.m.own hold (by decide))
  have hn : n = Ms.length := by
    obtain ⟨_, _, e, _⟩ := own_form h.m.own
    injection e
  have hbl := h.m.own.lt b rfl
  have hBx : Below w.heap.size w wx := (h.m.below.trans (hBa.mono h.m.below.size)).grown hg (Nat.le_trans h.m.below.size hBa.size) fun g hg' => (hold.lt g hg').1
  subst hn
  refine ⟨⟨by rw [List.length_set]; exact (hO1.stored i u').1, fun j t N ht hN => ?_, hBx.trans ((Below.refl _ _).setCell hbl.1 _)⟩, ?_⟩
  · rw [List.getElem?_set] at ht hN
    by_cases hij : i = j
    · rw [if_pos hij, if_pos (by omega)] at ht
      rw [if_pos hij, if_pos (by omega)] at hN
      injection ht with ht; injection hN with hN
      subst ht hN
      refine own_set_other hown (own_ty_ne hown hO1 (by decide)) _
    · rw [if_neg hij] at ht hN
      have h1 := h.m.rows j t N ht hN
      have h2 : wx.ownsRow w.heap.size 3 1 t N.length (nats N) := by
        refine (own_kept h1 hBa).kept hg ?_
        cases ho : t.ownBlock with
        | none => exact .inl rfl
        | some g => exact .inr fun e => h.d j i t u g (by omega) ht hi ho e.symm
      exact own_set_other h2 (own_ty_ne h2 hO1 (by decide)) _
  · refine h.d.setAt fun j t g hj ht hg' e => ?_
    rcases hnew with e1 | ⟨q, e1, e2⟩
    · rw [e1] at e
      exact h.d j i t u g hj ht hi hg' e
    · rw [e1] at e
      injection e with e
      have := h.lt t (List.mem_of_getElem? ht) g hg'
      omega

/-- A number is put into a row. -/
theorem Tab.put {w wr : World} {v : Value} {i g cp j x : Nat} {vs : List Value} {Ms : List (List Nat)} (h : Tab w wr v vs Ms) (hi : vs[i]? = some (.slice (some ⟨g, 0, none⟩) (Ms.getD i []).length cp)) (hiM : i < Ms.length) :
    Tab w (wr.setCell ⟨g, j, none⟩ (.int .i64 (x : Int))) v vs (Ms.set i ((Ms.getD i []).set j x)) := by
  have hvl := h.m.vlen
  have ho : wr.ownsRow w.heap.size 3 1 (.slice (some ⟨g, 0, none⟩) (Ms.getD i []).length cp) (Ms.getD i []).length (nats (Ms.getD i [])) :=
    h.m.rows i _ _ hi (by rw [List.getElem?_eq_getElem hiM]; simp [List.getD, hiM])
  have hs := ho.stored j (.int .i64 (x : Int))
  rw [← nats_set] at hs
  have hg : wr.grownBy (wr.setCell ⟨g, j, none⟩ (.int .i64 (x : Int))) (Value.slice (some ⟨g, 0, none⟩) (Ms.getD i []).length cp).ownBlock := by simpa [Value.ownBlock] using hs.2
  refine ⟨⟨?_, fun k t N ht hN => ?_, h.m.below.grown hg h.m.below.size fun q hq => (ho.lt q hq).1⟩, h.d⟩
  · rw [List.length_set]
    exact h.m.own.kept hg (own_ty_ne2 h.m.own ho (by decide))
  · rw [List.getElem?_set] at hN
    by_cases hik : i = k
    · subst hik
      rw [if_pos rfl, if_pos hiM] at hN
      injection hN with hN
      subst hN
      rw [hi] at ht
      injection ht with ht
      subst ht
      rw [List.length_set]
      exact hs.1
    · rw [if_neg hik] at hN
      have h1 := h.m.rows k t N ht hN
      refine h1.kept hg ?_
      cases hob : t.ownBlock with
      | none => exact .inl rfl
      | some q => exact .inr fun e => h.d k i t _ q (by omega) ht hi hob e.symm

/-- A row, by its number. -/
theorem Tab.cell {w wr : World} {v : Value} {vs : List Value} {Ms : List (List Nat)} (h : Tab w wr v vs Ms) {i : Nat} (hi : i < Ms.length) : ∃ b n cap a cp, v = .slice (some ⟨b, 0, none⟩) n cap ∧ n = Ms.length ∧ b < wr.heap.size ∧ wr.cell? ⟨b, i, none⟩ = some (.slice a (Ms.getD i []).length cp) ∧ vs[i]? = some (.slice a (Ms.getD i []).length cp) ∧ wr.ownsRow w.heap.size 3 1 (.slice a (Ms.getD i []).length cp) (Ms.getD i []).length (nats (Ms.getD i [])) ∧ wr.frozen? ⟨b, i, none⟩ = false := by
  have hvl := h.m.vlen
  obtain ⟨a, cap, e, _, _, hb⟩ := own_form h.m.own
  obtain ⟨b, rfl, _, hbl⟩ := hb (by omega)
  subst e
  have hu : vs[i]? = some (vs[i]'(by omega)) := List.getElem?_eq_getElem (by omega)
  have hM : Ms[i]? = some (Ms.getD i []) := by rw [List.getElem?_eq_getElem hi]; simp [List.getD, hi]
  have ho := h.m.rows i _ _ hu hM
  obtain ⟨x, cp, e1, _⟩ := own_form ho
  refine ⟨b, Ms.length, cap, x, cp, rfl, rfl, hbl, ?_, by rw [hu, e1], by rw [← e1]; exact ho, h.m.own.frozenAt i⟩
  rw [h.m.own.cellAt i (by omega), hu, e1]

end Go.Proofs.Ytapidabhdbjnmaa
