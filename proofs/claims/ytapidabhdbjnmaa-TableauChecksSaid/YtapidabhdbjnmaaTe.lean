/- The walk over the reference's insert. -/
import Derived.Test.YtapidabhdbjnmaaTd
import Derived.Test.YtapidabhdbjnmaaTm
namespace Go.Proofs.Ytapidabhdbjnmaa
open Go.RowKit

theorem Tab.outer {w wr wa wx : World} {b n cap i : Nat} {vs : List Value} {Ms : List (List Nat)} {u : Value} (h : Tab w wr (.slice (some ⟨b, 0, none⟩) n cap) vs Ms) (hi : vs[i]? = some u)
    (hBa : Below wr.heap.size wr wa) (hg : wa.grownBy wx u.ownBlock) : wx.cell? ⟨b, i, none⟩ = some u ∧ wx.frozen? ⟨b, i, none⟩ = false := by
  have hvl := h.m.vlen
  have hil : i < vs.length := by
    rcases Nat.lt_or_ge i vs.length with e | e
    · exact e
    · rw [List.getElem?_eq_none e] at hi; cases hi
  have hold := h.m.rows i u (Ms[i]'(by omega)) hi (List.getElem?_eq_getElem (by omega))
  have hO1 : wx.ownsRow w.heap.size 22 1 (.slice (some ⟨b, 0, none⟩) n cap) Ms.length vs :=
    (own_kept h.m.own hBa).kept hg (own_ty_ne2 h.m.own hold (by decide))
  have hn : n = Ms.length := by
    obtain ⟨_, _, e, _⟩ := own_form h.m.own
    injection e
  subst hn
  refine ⟨?_, hO1.frozenAt i⟩
  rw [hO1.cellAt i (by omega), hi]

namespace T
theorem ins_nil (x : Nat) : ins [] x = ([[x]], 0) := rfl
/-- The rows that the insertion has passed, and those that are left. -/
def At (Ms : List (List Nat)) (x : Nat) (Ns : List (List Nat)) (xi i : Nat) : Prop := Ns.length = Ms.length ∧ Ok Ns ∧ (ins Ms x).1 = Ns.take i ++ (ins (Ns.drop i) xi).1 ∧ (ins Ms x).2 = i + (ins (Ns.drop i) xi).2
theorem At.start {Ms : List (List Nat)} (h : Ok Ms) (x : Nat) : At Ms x Ms x 0 := ⟨rfl, h, by simp, by simp⟩
theorem At.row {Ms Ns : List (List Nat)} {x xi i : Nat} (_h : At Ms x Ns xi i) (hi : i < Ns.length) : Ns.drop i = Ns.getD i [] :: Ns.drop (i + 1) := by
  rw [List.drop_eq_getElem_cons hi]; simp [List.getD, hi]
theorem At.ok {Ms Ns : List (List Nat)} {x xi i : Nat} (h : At Ms x Ns xi i) (hi : i < Ns.length) : (Ns.getD i []).length ≠ 0 ∧ Asc (Ns.getD i []) := h.2.1 _ (by simp [List.getD, hi])
theorem At.next {Ms Ns : List (List Nat)} {x xi i : Nat} (h : At Ms x Ns xi i) (hi : i < Ns.length) (hp : pos xi (Ns.getD i []) < (Ns.getD i []).length) :
    At Ms x (Ns.set i ((Ns.getD i []).set (pos xi (Ns.getD i [])) xi)) ((Ns.getD i []).getD (pos xi (Ns.getD i [])) 0) (i + 1) := by
  have hr := h.row hi
  have ho := h.ok hi
  obtain ⟨h1, h2, h3, h4⟩ := h
  rw [hr, ins, if_neg (by omega)] at h3 h4
  have hd : (Ns.set i ((Ns.getD i []).set (pos xi (Ns.getD i [])) xi)).drop (i + 1) = Ns.drop (i + 1) := by
    rw [List.drop_set, if_pos (by omega)]
  have ht : (Ns.set i ((Ns.getD i []).set (pos xi (Ns.getD i [])) xi)).take (i + 1) = Ns.take i ++ [(Ns.getD i []).set (pos xi (Ns.getD i [])) xi] := by
    rw [List.take_succ_eq_append_getElem (by rw [List.length_set]; exact hi), List.getElem_set_self, List.take_set, List.set_eq_of_length_le (by rw [List.length_take]; omega)]
  refine ⟨by rw [List.length_set]; exact h1, fun r hr' => ?_, ?_, ?_⟩
  · rcases List.mem_or_eq_of_mem_set hr' with h5 | h5
    · exact h2 r h5
    · rw [h5]; exact ⟨by rw [List.length_set]; exact ho.1, ho.2.put hp⟩
  · rw [hd, ht, h3]; simp
  · rw [hd, h4]; simp only; omega
theorem At.last {Ms Ns : List (List Nat)} {x xi i : Nat} (h : At Ms x Ns xi i) (hi : i < Ns.length) (hp : pos xi (Ns.getD i []) = (Ns.getD i []).length) :
    (ins Ms x).1 = Ns.set i (Ns.getD i [] ++ [xi]) ∧ (ins Ms x).2 = i := by
  have hr := h.row hi
  obtain ⟨h1, h2, h3, h4⟩ := h
  rw [hr, ins, if_pos hp] at h3 h4
  refine ⟨?_, by rw [h4]; rfl⟩
  rw [h3, List.set_eq_take_append_cons_drop, if_pos hi]
theorem At.new {Ms Ns : List (List Nat)} {x xi i : Nat} (h : At Ms x Ns xi i) (hi : i = Ns.length) : (ins Ms x).1 = Ns ++ [[xi]] ∧ (ins Ms x).2 = i := by
  obtain ⟨h1, h2, h3, h4⟩ := h
  rw [hi, List.drop_length, ins_nil] at h3 h4
  rw [List.take_length] at h3
  exact ⟨h3, by rw [h4, hi]; rfl⟩
end T

end Go.Proofs.Ytapidabhdbjnmaa
