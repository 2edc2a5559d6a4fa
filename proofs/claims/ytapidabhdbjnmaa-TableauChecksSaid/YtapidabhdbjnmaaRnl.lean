/- A run of a call that is handed no memory: append. -/
import Derived.Test.YtapidabhdbjnmaaRnk
namespace Go.Proofs.Ytapidabhdbjnmaa
namespace Rn

variable {P : Program} {p : Pl} {c : Ctx} {s s' : St} {w : World}

/-! ### Stores into a block of the world -/

theorem keep_setCell_of (h : Keep c w) {r : Nat} (hr : c.w0.heap.size ≤ r ∨ c.D r) (off : Nat) (v : Value) : Keep c (w.setCell ⟨r, off, none⟩ v) := h.setCell (a := ⟨r, off, none⟩) hr v

/-- A list is written into a block, as far as there is room. -/
theorem storeCells_block {r off : Nat} {e : TypeId} (hr : c.w0.heap.size ≤ r ∨ c.D r) : ∀ (l : List Value) (i : Nat) (w : World) (cs : Array Value), Keep c w → w.heap[r]? = some (.cells cs e (0, 0)) → off + i + l.length ≤ cs.size → (∀ v ∈ l, oneCellB v = true) →
    ∃ w' cs', (storeCells ⟨r, off, none⟩ l i).run P w = .ok () w' ∧ Keep c w' ∧ w'.heap[r]? = some (.cells cs' e (0, 0)) ∧ cs'.size = cs.size ∧ (∀ k, k ≠ r → w'.heap[k]? = w.heap[k]?) ∧ w'.heap.size = w.heap.size ∧
      (∀ j, j < off + i → cs'[j]? = cs[j]?) ∧ (∀ j, j < l.length → cs'[off + i + j]? = l[j]?)
  | [], i, w, cs, hk, hw, hl, h1 => ⟨w, cs, rfl, hk, hw, rfl, fun _ _ => rfl, rfl, fun _ _ => rfl, fun j hj => by simp at hj⟩
  | v :: l, i, w, cs, hk, hw, hl, h1 => by
    simp only [List.length_cons] at hl
    have hw1 := setCell_block (off := off + i) hw v
    obtain ⟨w', cs', g1, g2, g3, g4, g5, g5', g6, g7⟩ := storeCells_block (off := off) hr l (i + 1) (w.setCell ⟨r, off + i, none⟩ v) (cs.setIfInBounds (off + i) v) (keep_setCell_of hk hr _ v) hw1 (by simp; omega) (fun x hx => h1 x (by simp [hx]))
    refine ⟨w', cs', ?_, g2, g3, by rw [g4]; simp, fun k hk => by rw [g5 k hk, setCell_ne hk], by rw [g5']; simp [World.setCell], ?_, ?_⟩
    · show (Sem.store .plain ((⟨r, off, none⟩ : Addr).add i) v (storeCells ⟨r, off, none⟩ l (i + 1))).run P w = _
      rw [add_eq, run_store (u := cs[off + i]'(by omega)) (by rw [cell_of_block hw]; exact Array.getElem?_eq_getElem _) (frozen_of_block hw) (h1 v (by simp))]
      exact g1
    · intro j hj
      rw [g6 j (by omega), Array.getElem?_setIfInBounds, if_neg (by omega)]
    · intro j hj
      cases j with
      | zero =>
        rw [show off + i + 0 = off + i by omega, g6 (off + i) (by omega), Array.getElem?_setIfInBounds, if_pos rfl, if_pos (by omega)]
        rfl
      | succ j =>
        have := g7 j (by simpa using hj)
        rw [show off + i + (j + 1) = off + (i + 1) + j by omega, this]
        simp

/-! ### The pieces of append -/

theorem src_ok (hm : M c p s w) {size : Nat} {x x' : Value} {n : Nat} {l : List Value} (hv : VR p x x') (h : srcCells s size x = some (n, l)) :
    (Builtin.lenOf x').run P w = .ok n w ∧ ∃ l' : Array Value, (Builtin.firstCells size n x').run P w = .ok l' w ∧ LR p l l'.toList := by
  unfold srcCells at h
  split at h
  · rename_i a m cp
    obtain ⟨a', c', rfl, ha⟩ := vr_slice hv
    split at h
    · rename_i l0 hl0
      injection h with h
      injection h with e1 e2
      subst e1; subst e2
      refine ⟨rfl, ?_⟩
      by_cases hn : m = 0
      · subst hn
        rw [Nat.zero_mul, loadN_zero] at hl0
        injection hl0 with hl0
        subst hl0
        refine ⟨#[], ?_, .nil p⟩
        show (loadCells a' (0 * size)).run P w = _
        rw [Nat.zero_mul]; rfl
      · exact loadN_load hm (ha hn) hl0
    · cases h
  · rename_i m cp
    cases hb : Nat.beq m 0 with
    | false => rw [hb] at h; cases h
    | true =>
      rw [hb, cond_true] at h
      injection h with h
      injection h with e1 e2
      subst e1; subst e2
      have := nb hb
      subst this
      rw [vr_slice_none hv]
      exact ⟨rfl, #[], rfl, .nil p⟩
  · rename_i b
    cases hb : Nat.beq size 1 with
    | false => rw [hb] at h; cases h
    | true =>
      rw [hb, cond_true] at h
      injection h with h
      injection h with e1 e2
      subst e1; subst e2
      rw [vr_string hv]
      refine ⟨rfl, _, rfl, LR.flat fun v hv => ?_⟩
      simp only [Array.toList_map, List.mem_map] at hv
      obtain ⟨_, _, rfl⟩ := hv
      rfl
  · cases h

theorem src_len {size : Nat} {x : Value} {n : Nat} {l : List Value} (h : srcCells s size x = some (n, l)) : l.length = n * size := by
  have hl : ∀ (n i : Nat) (a : Addr) (l : List Value), loadN s a i n = some l → l.length = n := by
    intro n
    induction n with
    | zero => intro i a l h; rw [loadN_zero] at h; injection h with h; subst h; rfl
    | succ n ih =>
      intro i a l h
      rw [loadN_succ] at h
      unfold consO at h
      split at h
      · rename_i v l' hv hl
        injection h with h
        subst h
        simp [ih _ _ _ hl]
      · cases h
  unfold srcCells at h
  split at h
  · split at h
    · rename_i l0 hl0
      injection h with h
      injection h with e1 e2
      subst e1; subst e2
      exact hl _ _ _ _ hl0
    · cases h
  · cases hb : Nat.beq _ 0 with
    | false => rw [hb] at h; cases h
    | true =>
      rw [hb, cond_true] at h
      injection h with h
      injection h with e1 e2
      subst e1; subst e2
      simp
  · rename_i b
    cases hb : Nat.beq size 1 with
    | false => rw [hb] at h; cases h
    | true =>
      rw [hb, cond_true] at h
      injection h with h
      injection h with e1 e2
      subst e1; subst e2
      rw [nb hb, Array.length_toList, Array.size_map, Nat.mul_one]
      show (b.extract 0 b.size).size = b.size
      rw [ByteArray.size_extract]
      omega
  · cases h

theorem growBy_le (n : Nat) (hn : n ≤ 65536) : ∀ (k c : Nat), c ≤ 200000 → k ≤ 4 → Builtin.growBy n k c ≤ 200000 := by
  intro k
  induction k with
  | zero => intro c hc _; exact hc
  | succ k ih =>
    intro c hc hk
    rw [Builtin.growBy]
    split
    · exact hc
    · exact ih _ (by omega) (by omega)

theorem cap_le {need cap : Nat} (h1 : need ≤ 65536) (h2 : cap < need) : Builtin.nextslicecap need cap ≤ 200000 := by
  unfold Builtin.nextslicecap
  split
  · omega
  · split
    · omega
    · exact growBy_le need h1 4 cap (by omega) (by omega)

end Rn
end Go.Proofs.Ytapidabhdbjnmaa
