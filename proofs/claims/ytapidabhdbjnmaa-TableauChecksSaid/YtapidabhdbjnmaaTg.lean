/- What lies in blocks that nobody writes; the pair of a word. -/
import Derived.Test.YtapidabhdbjnmaaTf
namespace Go.Proofs.Ytapidabhdbjnmaa
open Go.RowKit

/-- The world W holds what w held in the blocks from B on. -/
def Holds (B : Nat) (w W : World) : Prop := w.heap.size ≤ W.heap.size ∧ ∀ c : Addr, B ≤ c.block → c.block < w.heap.size → W.cell? c = w.cell? c
theorem Holds.refl (B : Nat) (w : World) : Holds B w w := ⟨Nat.le_refl _, fun _ _ _ => rfl⟩
theorem Holds.below {B : Nat} {w W W' : World} (h : Holds B w W) (hB : Below W.heap.size W W') : Holds B w W' := ⟨Nat.le_trans h.1 hB.size, fun c h1 h2 => by rw [hB.cell (p := c) (by have := h.1; omega)]; exact h.2 c h1 h2⟩
theorem Holds.grown {B : Nat} {w W W' : World} {v : Value} (h : Holds B w W) (hg : W.grownBy W' v.ownBlock) (hv : ∀ g, v.ownBlock = some g → g < B) : Holds B w W' := by
  refine ⟨Nat.le_trans h.1 hg.size, fun c h1 h2 => ?_⟩
  rw [hg.cell_far c (by have := h.1; omega) (fun e => by have := hv c.block e.symm; omega)]
  exact h.2 c h1 h2
theorem Holds.set {B : Nat} {w W : World} {p : Addr} {u : Value} (h : Holds B w W) (hp : p.block < B) : Holds B w (W.setCell p u) := by
  refine ⟨by simpa using h.1, fun c h1 h2 => ?_⟩
  rw [World.cell?_setCell_other _ _ _ _ (by rintro rfl; omega)]
  exact h.2 c h1 h2
theorem Rd.holds {w W : World} {base size n : Nat} {e : TypeId} {v : Value} {xs : List Value} (h : w.ownsRow base e size v n xs) (hH : Holds base w W) : Rd W v size n xs := by
  have hr := Rd.of_own h
  obtain ⟨h1, a, cap, rfl, h3, h4⟩ := hr
  refine ⟨h1, a, cap, rfl, h3, ?_⟩
  rcases h4 with h4 | ⟨b, rfl, hb, hc⟩
  · exact .inl h4
  · have hbb := (h.lt b rfl).1
    exact .inr ⟨b, rfl, by have := hH.1; omega, fun j u hu => by rw [hH.2 _ hbb hb]; exact hc j u hu⟩
theorem Tab.holds {w wr W : World} {v : Value} {vs : List Value} {Ms : List (List Nat)} (h : Tab w wr v vs Ms) (hH : Holds w.heap.size wr W) : RdN W v Ms :=
  ⟨vs, Rd.holds h.m.own hH, fun i hi hi' => Rd.holds (h.m.rows i _ _ (List.getElem?_eq_getElem hi') (List.getElem?_eq_getElem hi)) hH⟩

namespace T
theorem row_le : ∀ (rs : List (List Nat)) (r : List Nat), r ∈ rs → r.length ≤ size rs
  | [], r, h => by simp at h
  | q :: rs, r, h => by
    unfold size
    simp only [List.map_cons, List.sum_cons]
    rcases List.mem_cons.1 h with h1 | h1
    · rw [h1]; omega
    · have := row_le rs r h1; unfold size at this; omega
theorem len_le : ∀ (rs : List (List Nat)), Ok rs → rs.length ≤ size rs
  | [], _ => Nat.zero_le _
  | q :: rs, h => by
    have h1 := len_le rs fun r hr => h r (by simp [hr])
    have h2 := (h q (by simp)).1
    unfold size at h1 ⊢
    simp only [List.map_cons, List.sum_cons, List.length_cons]
    omega
theorem getD_mem (L : List (List Nat)) (i : Nat) (h : i < L.length) : L.getD i [] ∈ L := by
  rw [show L.getD i [] = L[i] from by simp [List.getD, h]]; exact List.getElem_mem h
theorem pair_ok (word : List Nat) : ∀ i, Ok (pair word i).1 ∧ size (pair word i).1 = i ∧ (pair word i).2.length = (pair word i).1.length ∧ ∀ X ∈ (pair word i).2, X.length ≤ i
  | 0 => ⟨fun r h => by simp [pair] at h, rfl, rfl, fun X h => by simp [pair] at h⟩
  | i + 1 => by
    obtain ⟨h1, h2, h3, h4⟩ := pair_ok word i
    obtain ⟨g1, g2, g3, g4⟩ := ins_ok (pair word i).1 (word.getD i 0) h1
    refine ⟨g1, by show size (ins (pair word i).1 (word.getD i 0)).1 = i + 1; omega, ?_, fun X hX => ?_⟩
    · show (if _ then _ else _ : List (List Nat)).length = (ins (pair word i).1 (word.getD i 0)).1.length
      rw [g4]
      split
      · next e => rw [if_pos (by omega)]; simp; omega
      · next e => rw [if_neg (by omega)]; simp; omega
    · have hX' : X ∈ (if (ins (pair word i).1 (word.getD i 0)).2 = (pair word i).2.length then (pair word i).2 ++ [[i + 1]] else (pair word i).2.set (ins (pair word i).1 (word.getD i 0)).2 ((pair word i).2.getD (ins (pair word i).1 (word.getD i 0)).2 [] ++ [i + 1])) := hX
      split at hX'
      · rcases List.mem_append.1 hX' with h5 | h5
        · have := h4 X h5; omega
        · simp at h5; subst h5; simp
      · next e =>
        rcases List.mem_or_eq_of_mem_set hX' with h5 | h5
        · have := h4 X h5; omega
        · rw [h5, List.length_append]
          have hg : (ins (pair word i).1 (word.getD i 0)).2 < (pair word i).2.length := by omega
          have := h4 ((pair word i).2.getD (ins (pair word i).1 (word.getD i 0)).2 []) (getD_mem _ _ hg)
          rw [List.length_singleton]; omega
theorem pair_p (word : List Nat) (i : Nat) : (pair word (i + 1)).1 = (ins (pair word i).1 (word.getD i 0)).1 := rfl
theorem pair_new (word : List Nat) (i : Nat) (h : (ins (pair word i).1 (word.getD i 0)).2 = (pair word i).2.length) : (pair word (i + 1)).2 = (pair word i).2 ++ [[i + 1]] := if_pos h
theorem pair_old (word : List Nat) (i : Nat) (h : (ins (pair word i).1 (word.getD i 0)).2 ≠ (pair word i).2.length) : (pair word (i + 1)).2 = (pair word i).2.set (ins (pair word i).1 (word.getD i 0)).2 ((pair word i).2.getD (ins (pair word i).1 (word.getD i 0)).2 [] ++ [i + 1]) := if_neg h
end T

end Go.Proofs.Ytapidabhdbjnmaa
