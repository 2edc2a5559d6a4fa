/- Results that are overwritten; Common at any lists. -/
import Derived.Test.YtldfbadcigdbkaaDecide
import Derived.Test.YtldfbadcigdbkaaWalkMod
import Derived.Test.YtldfbadcigdbkaaWalkRefRight
import Derived.Test.YtldfbadcigdbkaaArgs
namespace Go.Proofs.Ytldfbadcigdbkaa.primeOwn
open Go.RowKit

/-- A list of entries that may be overwritten: each entry's factors lie in a block of the call's own. -/
def Loose (B xb : Nat) (w : World) (g n : Nat) (cur : Array Value) : Prop :=
  w.heap[g]? = some (.cells cur 39 (0, 0)) ∧ B ≤ g ∧ g < xb ∧ n * 3 ≤ cur.size ∧ ∀ j, j < n → ∃ a m c, cur[j * 3 + 2]? = some (.slice a m c) ∧ m ≤ 1000000 ∧ (m = 0 ∨ ∃ gj curj, a = some ⟨gj, 0, none⟩ ∧ gj ≠ g ∧ B ≤ gj ∧ gj < xb ∧ w.heap[gj]? = some (.cells curj 3 (0, 0)) ∧ m ≤ curj.size)

theorem Loose.keep {B xb : Nat} {w w' : World} {g n : Nat} {cur : Array Value} (h : Loose B xb w g n cur) (hk : ∀ b, b < xb → w'.heap[b]? = w.heap[b]?) : Loose B xb w' g n cur := by
  obtain ⟨h1, h2, h3, h4, h5⟩ := h
  refine ⟨(hk g h3).trans h1, h2, h3, h4, fun j hj => ?_⟩
  obtain ⟨a, m, c, e1, e2, e3⟩ := h5 j hj
  refine ⟨a, m, c, e1, e2, ?_⟩
  rcases e3 with e3 | ⟨gj, curj, f1, f2, f3, f4, f5, f6⟩
  · exact .inl e3
  · exact .inr ⟨gj, curj, f1, f2, f3, f4, (hk gj f4).trans f5, f6⟩

theorem Loose.store {B xb : Nat} {w : World} {g n : Nat} {cur : Array Value} (h : Loose B xb w g n cur) {gk k : Nat} {u : Value} {ck : Array Value} (hne : gk ≠ g) (hb : w.heap[gk]? = some (.cells ck 3 (0, 0))) : Loose B xb (w.setCell ⟨gk, k, none⟩ u) g n cur := by
  obtain ⟨h1, h2, h3, h4, h5⟩ := h
  refine ⟨by rw [heap_setCell_other _ _ _ _ (by show g ≠ gk; omega)]; exact h1, h2, h3, h4, fun j hj => ?_⟩
  obtain ⟨a, m, c, e1, e2, e3⟩ := h5 j hj
  refine ⟨a, m, c, e1, e2, ?_⟩
  rcases e3 with e3 | ⟨gj, curj, f1, f2, f3, f4, f5, f6⟩
  · exact .inl e3
  · by_cases he : gj = gk
    · subst he
      rw [hb] at f5
      injection f5 with f5
      injection f5 with f5
      subst f5
      exact .inr ⟨gj, _, f1, f2, f3, f4, heap_setCell_same w _ k _ _ u hb, by simpa using f6⟩
    · exact .inr ⟨gj, curj, f1, f2, f3, f4, by rw [heap_setCell_other _ _ _ _ (by exact he)]; exact f5, f6⟩

theorem Loose.clear {B xb : Nat} {w : World} {g n i : Nat} {cur : Array Value} (h : Loose B xb w g n cur) (hi : i < n) :
    ∃ cur', Loose B xb (((w.setCell ⟨g, i * 3, none⟩ (.int .i64 0)).setCell ⟨g, i * 3 + 1, none⟩ (.int .i64 0)).setCell ⟨g, i * 3 + 2, none⟩ (.slice none 0 0)) g n cur' := by
  obtain ⟨h1, h2, h3, h4, h5⟩ := h
  have g1 := heap_setCell_same w _ (i * 3) _ _ (.int .i64 0) h1
  have g2 := heap_setCell_same _ _ (i * 3 + 1) _ _ (.int .i64 0) g1
  have g3 := heap_setCell_same _ _ (i * 3 + 2) _ _ (.slice none 0 0) g2
  refine ⟨_, g3, h2, h3, by simpa using h4, fun j hj => ?_⟩
  by_cases hji : j = i
  · subst hji
    exact ⟨none, 0, 0, by simp [Array.getElem?_setIfInBounds]; omega, by omega, .inl rfl⟩
  · obtain ⟨a, m, c, e1, e2, e3⟩ := h5 j hj
    refine ⟨a, m, c, ?_, e2, ?_⟩
    · rw [Array.getElem?_setIfInBounds_ne (by omega), Array.getElem?_setIfInBounds_ne (by omega), Array.getElem?_setIfInBounds_ne (by omega)]; exact e1
    · rcases e3 with e3 | ⟨gj, curj, f1, f2, f3, f4, f5, f6⟩
      · exact .inl e3
      · exact .inr ⟨gj, curj, f1, f2, f3, f4, by rw [heap_setCell_other _ _ _ _ (by exact f2), heap_setCell_other _ _ _ _ (by exact f2), heap_setCell_other _ _ _ _ (by exact f2)]; exact f5, f6⟩

theorem Loose.of_out {w0 wd : World} {v : Value} {Zs : List EntE} (h : OutE w0 wd v Zs) (hok : ∀ E ∈ Zs.map EntE.E, EntOk E) : ∃ a cap, v = .slice a Zs.length cap ∧ (Zs.length = 0 ∨ ∃ g cur, a = some ⟨g, 0, none⟩ ∧ Loose (w0.heap.size + 1) wd.heap.size wd g Zs.length cur) := by
  have hsz := h.own.lt
  rcases h.own.2 with ⟨h1, h2⟩ | ⟨g, cap, cur, hv, h4, h5, h6, h7, h8, h9⟩
  · exact ⟨none, 0, by rw [h2]; exact h1, .inl h2⟩
  · refine ⟨some ⟨g, 0, none⟩, cap, hv, .inr ⟨g, cur, rfl, h5, h4, (hsz g (by rw [hv]; rfl)).2, by rw [h8]; exact Nat.mul_le_mul_right _ h6, fun j hj => ?_⟩⟩
    obtain ⟨a1, a2, a3, a4⟩ := h.each Zs[j] (List.getElem_mem hj)
    have hlen : j < (Zs.map EntE.toT).length := by simpa using hj
    have g2 := flatT_get (Zs.map EntE.toT) (j * 3 + 2) (by rw [show (j * 3 + 2) / 3 = j by omega]; exact hlen)
    simp only [show (j * 3 + 2) / 3 = j by omega, show (j * 3 + 2) % 3 = 2 by omega, List.getElem_map] at g2
    have hcur : cur[j * 3 + 2]? = some (.slice Zs[j].a Zs[j].n Zs[j].c) := by
      rw [← h9, List.getElem?_take] at g2
      split at g2
      · simp only [Array.getElem?_toList] at g2
        rw [g2]; rfl
      · cases g2
    have hE := hok Zs[j].E (List.mem_map.2 ⟨Zs[j], List.getElem_mem hj, rfl⟩)
    rcases a3.2 with ⟨b1, b2⟩ | ⟨gj, cj, curj, b1, b2, b3, b4, b5, b6, b7⟩
    · injection b1 with b11 b12 b13
      exact ⟨_, _, _, hcur, by omega, .inl b12⟩
    · injection b1 with b11 b12 b13
      refine ⟨_, _, _, hcur, by have := hE.2.2.2; omega, .inr ⟨gj, curj, b11, ?_, b2, (a3.lt gj (by rw [b11]; rfl)).2, b3, by omega⟩⟩
      intro e
      exact a4 gj (by rw [b11]; rfl) (by rw [hv, e]; rfl)

theorem rests_list {R Q : List Int} (h : AreRests R Q) : ∃ L, Valid L ∧ R = (firsts L).map Int.ofNat ∧ Q = (seconds L).map Int.ofNat := by
  obtain ⟨h1, h2, h3⟩ := h
  have key : ∀ (R Q : List Int), R.length = Q.length → (∀ j (h : j < Q.length) (h' : j < R.length), IsRest R[j] Q[j]) → ∃ L : List (Nat × Nat), L.length = Q.length ∧ (∀ x ∈ L, x.1 < x.2 ∧ x.2 ≤ 2147483647) ∧ R = (firsts L).map Int.ofNat ∧ Q = (seconds L).map Int.ofNat := by
    intro R
    induction R with
    | nil =>
      intro Q hl _
      have : Q = [] := List.eq_nil_of_length_eq_zero (by simpa using hl.symm)
      subst this
      exact ⟨[], rfl, by simp, rfl, rfl⟩
    | cons r R ih =>
      intro Q hl hv
      match Q, hl, hv with
      | q :: Q, hl, hv =>
        obtain ⟨L, l1, l2, l3, l4⟩ := ih Q (by simpa using hl) (fun j hj hj' => by
          have := hv (j + 1) (by simpa using hj) (by simpa using hj')
          simpa using this)
        have h0 := hv 0 (by simp) (by simp)
        simp only [List.getElem_cons_zero] at h0
        obtain ⟨a1, a2, a3⟩ := h0
        refine ⟨(r.toNat, q.toNat) :: L, by simp [l1], ?_, ?_, ?_⟩
        · intro x hx
          rcases List.mem_cons.1 hx with rfl | hx
          · exact ⟨by show r.toNat < q.toNat; omega, by show q.toNat ≤ _; omega⟩
          · exact l2 x hx
        · rw [l3]; simp only [firsts, List.map_cons, List.cons.injEq]
          exact ⟨by show r = ((r.toNat : Nat) : Int); omega, by simp⟩
        · rw [l4]; simp only [seconds, List.map_cons, List.cons.injEq]
          exact ⟨by show q = ((q.toNat : Nat) : Int); omega, by simp⟩
  obtain ⟨L, l1, l2, l3, l4⟩ := key R Q h1 h3
  exact ⟨L, ⟨by omega, l2⟩, l3, l4⟩

theorem Common_any (R Q : List Int) (vr vq : Value) (w : World) (hr : Hid (Rd w vr 1 R.length (intsZ R))) (hq : Hid (Rd w vq 1 Q.length (intsZ Q))) (hQl : Q.length ≤ 1000000) :
    Calls Try.prog 16 #[vr, vq] w fun x w' => (∃ u, x = .returned u) ∧ ∃ n, w' = w.drewN n := by
  by_cases hA : AreRests R Q
  · obtain ⟨L, hLv, hLr, hLq⟩ := rests_list hA
    have hlR : R.length = L.length := by rw [hLr]; simp [firsts]
    have hlQ : Q.length = L.length := by rw [hLq]; simp [seconds]
    have hr3 : Hid (Rd w vr 1 L.length (ints (firsts L))) := by
      have := hr.out
      show Rd _ _ _ _ _
      rw [← intsZ_ofNat, ← hLr, ← hlR]
      exact this
    have hq3 : Hid (Rd w vq 1 L.length (ints (seconds L))) := by
      have := hq.out
      show Rd _ _ _ _ _
      rw [← intsZ_ofNat, ← hLq, ← hlQ]
      exact this
    by_cases hs : M.small 1 (seconds L) = true
    · obtain ⟨o, ho⟩ : ∃ o, M.crt 0 1 L = o := ⟨_, rfl⟩
      refine (Common_ok L _ _ o _ hr3 hq3 hLv hs ho).mono ?_
      rintro e w' h
      obtain ⟨h1, n, h2⟩ := h
      cases o with
      | none => exact ⟨⟨_, h1⟩, n, h2⟩
      | some xa => exact ⟨⟨_, h1⟩, n, h2⟩
    · refine (Common_big L _ _ _ hr3 hq3 hLv (by show _ = _; simpa using hs)).mono ?_
      rintro e w' h
      exact ⟨⟨_, h.1⟩, h.2⟩
  · refine (Common_arg R Q _ _ _ hr hq hQl hA).mono ?_
    rintro e w' h
    exact ⟨⟨_, h.1⟩, h.2⟩

end Go.Proofs.Ytldfbadcigdbkaa.primeOwn
