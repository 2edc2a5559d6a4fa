/- A game that grows in memory: three lists behind one block. -/
import Derived.Test.YtahhkbdodgjaeaaPe
import Derived.Maps.AppendAt
namespace Go.Proofs.Ytahhkbdodgjaeaa
open Go.RowKit

def Far (v u : Value) : Prop := ∀ g, v.ownBlock = some g → u.ownBlock ≠ some g
theorem Far.symm {v u : Value} (h : Far v u) : Far u v := fun g hg e => h g e hg
theorem Far.nil (u : Value) : Far (.slice none 0 0) u := fun g hg => by simp [Value.ownBlock] at hg
/-- The lists A, B and rows C, in blocks of their own from X on, named in block G, which lies below. -/
structure GSt (w0 X wx : World) (G : Nat) (T : TypeId) (v1 v2 v3 : Value) (vs : List Value) (A B : List Int) (C : List (List Int)) : Prop where
  cell : wx.heap[G]? = some (.cells #[v1, v2, v3] T (0, 0))
  a : wx.ownsRow X.heap.size 3 1 v1 A.length (zs A)
  b : wx.ownsRow X.heap.size 3 1 v2 B.length (zs B)
  c : wx.ownsRow X.heap.size 22 1 v3 C.length vs
  rows : ∀ (i : Nat) (u : Value) (M : List Int), vs[i]? = some u → C[i]? = some M → wx.ownsRow X.heap.size 3 1 u M.length (zs M)
  d12 : Far v1 v2
  d1 : ∀ u ∈ vs, Far v1 u
  d2 : ∀ u ∈ vs, Far v2 u
  below : Below w0.heap.size w0 wx
  lo : w0.heap.size ≤ G
  hi : G < X.heap.size
  le : X.heap.size ≤ wx.heap.size
theorem GSt.low {w0 X wx wy : World} {G : Nat} {T : TypeId} {v1 v2 v3 : Value} {vs : List Value} {A B : List Int} {C : List (List Int)} (h : GSt w0 X wx G T v1 v2 v3 vs A B C) (hB : Below wx.heap.size wx wy) : GSt w0 X wy G T v1 v2 v3 vs A B C :=
  ⟨by rw [hB.block G (by have := h.hi; have := h.le; omega)]; exact h.cell, own_kept h.a hB, own_kept h.b hB, own_kept h.c hB, fun i u M h1 h2 => own_kept (h.rows i u M h1 h2) hB, h.d12, h.d1, h.d2, below_step h.below hB, h.lo, h.hi, Nat.le_trans h.le hB.size⟩
theorem GSt.old {w0 X wx : World} {G : Nat} {T : TypeId} {v1 v2 v3 : Value} {vs : List Value} {A B : List Int} {C : List (List Int)} (h : GSt w0 X wx G T v1 v2 v3 vs A B C) {u : Value} (hu : u ∈ vs) : ∀ g, u.ownBlock = some g → X.heap.size ≤ g ∧ g < wx.heap.size := fun g hg => by
  obtain ⟨i, hi, rfl⟩ := List.getElem_of_mem hu
  have hl : vs.length = C.length := by have := h.c.1; omega
  exact (h.rows i _ (C[i]'(by omega)) (List.getElem?_eq_getElem hi) (List.getElem?_eq_getElem (by omega))).lt g hg
theorem ne_of_far {v u : Value} (h : Far v u) : u.ownBlock = none ∨ u.ownBlock ≠ v.ownBlock := by
  cases hu : u.ownBlock with
  | none => exact .inl rfl
  | some g => exact .inr fun e => h g e.symm hu
theorem far_new {v v' u : Value} {n : Nat} (h : Far v u) (hat : v'.ownBlock = v.ownBlock ∨ ∃ q, v'.ownBlock = some q ∧ n ≤ q) (hu : ∀ g, u.ownBlock = some g → g < n) : Far v' u := fun g hg e => by
  rcases hat with h1 | ⟨q, h1, h2⟩
  · exact h g (by rw [← h1]; exact hg) e
  · rw [h1] at hg; injection hg with hg; have := hu g e; omega
theorem own_ne_num {w : World} {base size n G : Nat} {e : TypeId} {v : Value} {xs : List Value} (h : w.ownsRow base e size v n xs) (hG : G < base) : v.ownBlock ≠ some G := fun e => by have := (h.lt G e).1; omega

/-- The first list grows. -/
theorem GSt.pushA {w0 X wx wa w3 : World} {G : Nat} {T : TypeId} {v1 v2 v3 v' : Value} {vs : List Value} {A B : List Int} {C : List (List Int)} {x : Int} (h : GSt w0 X wx G T v1 v2 v3 vs A B C) (hBa : Below wx.heap.size wx wa)
    (hown : w3.ownsRow X.heap.size 3 1 v' (A ++ [x]).length (zs (A ++ [x]))) (hg : wa.grownBy w3 v1.ownBlock) (hat : v'.ownBlock = v1.ownBlock ∨ ∃ q, v'.ownBlock = some q ∧ wx.heap.size ≤ q) :
    GSt w0 X (w3.setCell ⟨G, 0, none⟩ v') G T v' v2 v3 vs (A ++ [x]) B C := by
  have h' := h.low hBa
  have hc3 : w3.heap[G]? = some (.cells #[v1, v2, v3] T (0, 0)) := by
    rw [hg.block G (by have := h'.hi; have := h'.le; omega) (fun e => own_ne_num h'.a h.hi e.symm)]; exact h'.cell
  refine ⟨heap_set1 hc3 v', own_set_other hown (own_ne_num hown h.hi) _, own_set_other (h'.b.kept hg (ne_of_far h.d12)) (own_ne_num h.b h.hi) _, own_set_other (h'.c.kept hg (own_ty_ne2 h'.c h'.a (by decide))) (own_ne_num h.c h.hi) _,
    fun i u M h1 h2 => own_set_other ((h'.rows i u M h1 h2).kept hg (ne_of_far (h.d1 u (List.mem_of_getElem? h1)))) (own_ne_num (h.rows i u M h1 h2) h.hi) _, ?_, fun u hu => ?_, h.d2, ?_, h.lo, h.hi, ?_⟩
  · exact far_new h.d12 hat fun g hg' => (h.b.lt g hg').2
  · exact far_new (h.d1 u hu) hat fun g hg' => (h.old hu g hg').2
  · exact (h'.below.grown hg h'.below.size fun g hg' => by have := (h'.a.lt g hg').1; have := h.lo; have := h.hi; omega).setCell (p := ⟨G, 0, none⟩) h.lo _
  · have := h'.le; have := hg.size; simp [World.setCell]; omega
/-- The second list grows. -/
theorem GSt.pushB {w0 X wx wa w3 : World} {G : Nat} {T : TypeId} {v1 v2 v3 v' : Value} {vs : List Value} {A B : List Int} {C : List (List Int)} {x : Int} (h : GSt w0 X wx G T v1 v2 v3 vs A B C) (hBa : Below wx.heap.size wx wa)
    (hown : w3.ownsRow X.heap.size 3 1 v' (B ++ [x]).length (zs (B ++ [x]))) (hg : wa.grownBy w3 v2.ownBlock) (hat : v'.ownBlock = v2.ownBlock ∨ ∃ q, v'.ownBlock = some q ∧ wx.heap.size ≤ q) :
    GSt w0 X (w3.setCell ⟨G, 1, none⟩ v') G T v1 v' v3 vs A (B ++ [x]) C := by
  have h' := h.low hBa
  have hc3 : w3.heap[G]? = some (.cells #[v1, v2, v3] T (0, 0)) := by
    rw [hg.block G (by have := h'.hi; have := h'.le; omega) (fun e => own_ne_num h'.b h.hi e.symm)]; exact h'.cell
  refine ⟨heap_set1 hc3 v', own_set_other (h'.a.kept hg (ne_of_far h.d12.symm)) (own_ne_num h.a h.hi) _, own_set_other hown (own_ne_num hown h.hi) _, own_set_other (h'.c.kept hg (own_ty_ne2 h'.c h'.b (by decide))) (own_ne_num h.c h.hi) _,
    fun i u M h1 h2 => own_set_other ((h'.rows i u M h1 h2).kept hg (ne_of_far (h.d2 u (List.mem_of_getElem? h1)))) (own_ne_num (h.rows i u M h1 h2) h.hi) _, ?_, h.d1, fun u hu => ?_, ?_, h.lo, h.hi, ?_⟩
  · exact (far_new h.d12.symm hat fun g hg' => (h.a.lt g hg').2).symm
  · exact far_new (h.d2 u hu) hat fun g hg' => (h.old hu g hg').2
  · exact (h'.below.grown hg h'.below.size fun g hg' => by have := (h'.b.lt g hg').1; have := h.lo; have := h.hi; omega).setCell (p := ⟨G, 1, none⟩) h.lo _
  · have := h'.le; have := hg.size; simp [World.setCell]; omega
/-- A row is added: it lies in a block that is new. -/
theorem GSt.pushC {w0 X wx wa w3 : World} {G : Nat} {T : TypeId} {v1 v2 v3 v' u : Value} {vs : List Value} {A B : List Int} {C : List (List Int)} {M : List Int} (h : GSt w0 X wx G T v1 v2 v3 vs A B C) (hBa : Below wx.heap.size wx wa)
    (hu : wa.ownsRow wx.heap.size 3 1 u M.length (zs M)) (hown : w3.ownsRow X.heap.size 22 1 v' (C.length + 1) (vs ++ [u])) (hg : wa.grownBy w3 v3.ownBlock) :
    GSt w0 X (w3.setCell ⟨G, 2, none⟩ v') G T v1 v2 v' (vs ++ [u]) A B (C ++ [M]) := by
  have h' := h.low hBa
  have hc3 : w3.heap[G]? = some (.cells #[v1, v2, v3] T (0, 0)) := by
    rw [hg.block G (by have := h'.hi; have := h'.le; omega) (fun e => own_ne_num h'.c h.hi e.symm)]; exact h'.cell
  have hvl : vs.length = C.length := by have := h.c.1; omega
  have hfu : ∀ v : Value, (∀ g, v.ownBlock = some g → g < wx.heap.size) → Far v u := fun v hv g hg' e => by have := hv g hg'; have := (hu.lt g e).1; omega
  refine ⟨heap_set1 hc3 v', own_set_other (h'.a.kept hg (own_ty_ne2 h'.a h'.c (by decide))) (own_ne_num h.a h.hi) _, own_set_other (h'.b.kept hg (own_ty_ne2 h'.b h'.c (by decide))) (own_ne_num h.b h.hi) _, by rw [List.length_append]; exact own_set_other hown (own_ne_num hown h.hi) _,
    fun i t N ht hN => ?_, h.d12, fun t ht => ?_, fun t ht => ?_, ?_, h.lo, h.hi, ?_⟩
  · have hk : ∀ (t : Value) (N : List Int), wa.ownsRow X.heap.size 3 1 t N.length (zs N) → (w3.setCell ⟨G, 2, none⟩ v').ownsRow X.heap.size 3 1 t N.length (zs N) := fun t N h1 =>
      own_set_other (h1.kept hg (own_ty_ne2 h1 h'.c (by decide))) (own_ne_num h1 h.hi) _
    rw [List.getElem?_append] at ht hN
    split at ht
    · rw [if_pos (by omega)] at hN
      exact hk t N (h'.rows i t N ht hN)
    · rw [if_neg (by omega)] at hN
      rw [hvl] at ht
      have h0 : i - C.length = 0 := by
        by_cases h0 : i - C.length = 0
        · exact h0
        · rw [List.getElem?_eq_none (by simp; omega)] at ht; cases ht
      rw [h0] at ht hN
      simp at ht hN
      subst ht hN
      exact hk u M (own_base hu h.le)
  · rcases List.mem_append.1 ht with h1 | h1
    · exact h.d1 t h1
    · simp at h1; subst h1; exact hfu v1 fun g hg' => (h.a.lt g hg').2
  · rcases List.mem_append.1 ht with h1 | h1
    · exact h.d2 t h1
    · simp at h1; subst h1; exact hfu v2 fun g hg' => (h.b.lt g hg').2
  · exact (h'.below.grown hg h'.below.size fun g hg' => by have := (h'.c.lt g hg').1; have := h.lo; have := h.hi; omega).setCell (p := ⟨G, 2, none⟩) h.lo _
  · have := h'.le; have := hg.size; simp [World.setCell]; omega
theorem GSt.start {w0 X : World} {G : Nat} {T : TypeId} (hc : X.heap[G]? = some (.cells #[.slice none 0 0, .slice none 0 0, .slice none 0 0] T (0, 0))) (hB : Below w0.heap.size w0 X) (hlo : w0.heap.size ≤ G) : GSt w0 X X G T (.slice none 0 0) (.slice none 0 0) (.slice none 0 0) [] [] [] [] :=
  ⟨hc, World.ownsRow_nil _ _ _ _, World.ownsRow_nil _ _ _ _, World.ownsRow_nil _ _ _ _, fun i u M h => by simp at h, Far.nil _, fun u hu => by simp at hu, fun u hu => by simp at hu, hB, hlo, (Array.getElem?_eq_some_iff.1 hc).1, Nat.le_refl _⟩

end Go.Proofs.Ytahhkbdodgjaeaa
