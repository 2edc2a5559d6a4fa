/- The walks over prime.factors, its closure, and what calls them. -/
import Derived.Test.YtldfbadcigdbkaaWalkDiv
import Derived.Test.YtldfbadcigdbkaaFacStep
import Derived.OneCell
namespace Go.Proofs.Ytldfbadcigdbkaa
open Go.RowKit

/-- The cells of a list of powers. -/
def flat (l : List (Nat × Nat)) : List Value := l.flatMap fun x => [.int .i64 (x.1 : Int), .int .i64 (x.2 : Int)]

theorem flat_length (l : List (Nat × Nat)) : (flat l).length = l.length * 2 := by
  induction l with
  | nil => rfl
  | cons x l ih => simp [flat] at ih ⊢; omega
theorem flat_append (l l' : List (Nat × Nat)) : flat (l ++ l') = flat l ++ flat l' := by simp [flat]

/-- The two captured variables of factors, in the blocks N and N + 1. -/
structure FSt (N : Nat) (R : Int) (v : Value) (l : List (Nat × Nat)) (w : World) : Prop where
  size : N + 1 < w.heap.size
  list : w.heap[N]? = some (.cells #[v] 35 (0, 0))
  rest : w.heap[N + 1]? = some (.cells #[.int .i64 R] 3 (0, 0))
  own : w.ownsRow (N + 2) 41 2 v l.length (flat l)

theorem FSt.setRest {N : Nat} {R : Int} {v : Value} {l : List (Nat × Nat)} {w : World} (h : FSt N R v l w) (R' : Int) : FSt N R' v l (w.setCell ⟨N + 1, 0, none⟩ (.int .i64 R')) ∧ Below N w (w.setCell ⟨N + 1, 0, none⟩ (.int .i64 R')) := by
  refine ⟨⟨?_, ?_, one_setCell h.rest, ownsRow_setCell_below h.own (by simp) _⟩, (Below.refl _ _).setCell (by simp) _⟩
  · have := h.size; simpa [World.setCell] using this
  · rw [Below.heap_setCell _ _ _ _ (by simp)]; exact h.list

theorem Try.infoP : (Try.prog.info? 41).map (fun i => (i.zero, i.size, i.bytes)) = some (some (.agg #[.int .i64 0, .int .i64 0]), 2, 16) := by kernel_rfl

theorem own_shape {w : World} {base size n : Nat} {e : TypeId} {v : Value} {xs : List Value} (h : w.ownsRow base e size v n xs) (hn : n ≠ 0) : ∃ g cap, v = .slice (some ⟨g, 0, none⟩) n cap := by
  rcases h.2 with ⟨_, h0⟩ | ⟨g, cap, _, hv, _⟩
  · exact absurd h0 hn
  · exact ⟨g, cap, hv⟩

theorem FSt.append {N : Nat} {R : Int} {v v' : Value} {l : List (Nat × Nat)} {w w1 : World} {d : Int} {k : Nat} {o : Obj} (h : FSt N R v l w)
    (hown : w1.ownsRow (N + 2) 41 2 v' (l.length + 1) (flat l ++ [.int .i64 d, .int .i64 k])) (hg : (w.alloc o).grownBy w1 v.ownBlock) :
    w1.cell? ⟨N, 0, none⟩ = some v ∧ w1.frozen? ⟨N, 0, none⟩ = false ∧ (0 ≤ d → FSt N R v' (l ++ [(d.toNat, k)]) (w1.setCell ⟨N, 0, none⟩ v')) ∧ Below N w (w1.setCell ⟨N, 0, none⟩ v') := by
  have hsz := h.size
  have hlt := h.own.lt
  have hrow : ∀ b, b < N + 2 → some b ≠ v.ownBlock := fun b hb e => by have := (hlt b e.symm).1; omega
  have hbl : ∀ b, b < N + 2 → w1.heap[b]? = w.heap[b]? := fun b hb => by
    rw [hg.block b (by simp; omega) (hrow b hb), Below.heap_alloc _ _ _ (by omega)]
  have hsz1 := hg.size
  rw [World.size_alloc] at hsz1
  have hL : w1.heap[N]? = some (.cells #[v] 35 (0, 0)) := (hbl N (by omega)).trans h.list
  refine ⟨cell_of_one hL, free_of_one hL, fun hd => ⟨?_, one_setCell hL, ?_, ?_⟩, ?_⟩
  · simp [World.setCell]; omega
  · rw [Below.heap_setCell _ _ _ _ (by simp), hbl _ (by omega)]; exact h.rest
  · have e : flat (l ++ [(d.toNat, k)]) = flat l ++ [.int .i64 d, .int .i64 k] := by
      rw [flat_append]; simp [flat, Int.toNat_of_nonneg hd]
    rw [e, show (l ++ [(d.toNat, k)]).length = l.length + 1 by simp]
    exact ownsRow_setCell_below hown (by simp) _
  · exact (((Below.refl N w).alloc (by omega) o).grown hg (by simp; omega) (fun b hb => by have := (hlt b hb).1; omega)).setCell (by simp) _

theorem take_div (R' d : Int) (e r k : Nat) (h0 : 1 ≤ R') (hR : R' ≤ 2147483647) (hd : 2 ≤ d) (hk : k < e) (h : R'.toNat = d.toNat ^ (e - k) * r) :
    R' % d = 0 ∧ (1 ≤ R' / d ∧ R' / d ≤ 2147483647) ∧ (R' / d).toNat = d.toNat ^ (e - k - 1) * r := by
  obtain ⟨X, rfl⟩ := Int.eq_ofNat_of_zero_le (show 0 ≤ R' by omega)
  obtain ⟨D, rfl⟩ := Int.eq_ofNat_of_zero_le (show 0 ≤ d by omega)
  simp only [Int.toNat_natCast] at h ⊢
  have h1 : X = D * (D ^ (e - k - 1) * r) := by
    rw [h, ← Nat.mul_assoc, ← Nat.pow_succ', show (e - k - 1).succ = e - k by omega]
  have hm : X % D = 0 := Nat.mod_eq_zero_of_dvd ⟨_, h1⟩
  have hq : X / D = D ^ (e - k - 1) * r := by
    rw [h1]; exact Nat.mul_div_cancel_left _ (by omega)
  have e1 : ((X : Int) / (D : Int)) = ((X / D : Nat) : Int) := rfl
  have e2 : ((X : Int) % (D : Int)) = ((X % D : Nat) : Int) := rfl
  have hle : X / D ≤ X := Nat.div_le_self _ _
  have hpos : X / D ≠ 0 := fun e0 => by
    rw [← hq, e0] at h1; simp at h1; omega
  rw [e1, e2]
  refine ⟨by omega, by omega, by rw [Int.toNat_natCast]; exact hq⟩

set_option maxRecDepth 100000 in
set_option maxHeartbeats 400000 in
theorem take_any (N : Nat) (R d : Int) (v : Value) (l : List (Nat × Nat)) (e r : Nat) (w : World) (hS : FSt N R v l w) (hR0 : 1 ≤ R) (hR : R ≤ 2147483647) (hd : 2 ≤ d) (hd2 : d ≤ 2147483647)
    (hl : l.length ≤ 1000) (he2 : e ≤ 1000) (he : Hid (R.toNat = d.toNat ^ e * r ∧ ¬ d.toNat ∣ r ∧ 1 ≤ r)) :
    Calls Try.prog 30 #[.int .i64 d, .pointer (some ⟨N + 1, 0, none⟩), .pointer (some ⟨N, 0, none⟩)] w fun x w' => x = .returned (.tuple #[]) ∧
      (∃ v', FSt N r v' (l ++ if e = 0 then [] else [(d.toNat, e)]) w') ∧ Below N w w' := by
  obtain ⟨i0, hi, hz0, hz1, hz2⟩ := info_parts Try.infoP
  go_enter Try.func30, Try.ntmps30
  go_wp2
  go_loopw [4] (fun x wr => ∃ (k : Nat) (R' : Int), x = .int .i64 k ∧ 1 ≤ R' ∧ R' ≤ 2147483647 ∧ k ≤ e ∧ Hid (R'.toNat = d.toNat ^ (e - k) * r) ∧ FSt N R' v l wr ∧ Below N w wr) (fun x _ => e - (intOf x).toNat)
  case atStart => exact ⟨0, R, rfl, hR0, hR, by omega, he.out.1, hS, Below.refl _ _⟩
  case round =>
    obtain ⟨k, R', rfl, hR0', hR', hk, HR, hS', hB⟩ := hrel
    have cR := cell_of_one hS'.rest
    have fR := free_of_one hS'.rest
    by_cases hlt : k < e
    · have hdiv := Lib.hid (take_div R' d e r k hR0' hR' hd hlt HR.out)
      have ht : ((R' % d : Int) == 0) = true := by simpa using hdiv.out.1
      have hq := hdiv.out.2.1
      go_wp2
      go_roundw
      case rel => exact ⟨k + 1, R' / d, by go_num, hq.1, hq.2, by omega, by rw [show e - (k + 1) = e - k - 1 by omega]; exact hdiv.out.2.2, (hS'.setRest _).1, hB.trans (hS'.setRest _).2⟩
      case measure => simp [intOf]; omega
    · obtain rfl : k = e := by omega
      have hRr : R' = r := by have := HR.out; simp at this; omega
      have HRr := Lib.hid hRr
      have ht : ((R' % d : Int) == 0) = false := by
        rw [beq_eq_false_iff_ne]
        intro h0
        apply he.out.2.1
        have h1 := Int.dvd_of_emod_eq_zero h0
        rw [hRr] at h1
        obtain ⟨D, rfl⟩ := Int.eq_ofNat_of_zero_le (show 0 ≤ d by omega)
        rw [Int.toNat_natCast]
        exact_mod_cast h1
      clear hRr
      by_cases h0 : k = 0
      · subst h0
        go_wp2
        go_end0
        exact ⟨rfl, ⟨v, by rw [← HRr.out]; simpa using hS'⟩, hB⟩
      · have hk0 : 0 < k := by omega
        have cL := cell_of_one hS'.list
        have fL := free_of_one hS'.list
        have hown := hS'.own
        have hsz := hS'.size
        go_wp2_with (at_builtin; refine wpList_append_own _ rfl _ _ 35 rfl (N + 2) 41 i0 (.agg #[.int .i64 0, .int .i64 0]) 2 16 Try.underlying35 hi hz0 hz1 hz2 rfl (by decide) _ _ _ rfl (hown.alloc _) ⟨wr.heap.size, 0, none⟩ 1 1 [.int .i64 d, .int .i64 k] rfl rfl ?c1 ?c2 ?c3 ?c4 ?c5 ?_)
        case c1 => exact cell_two_new _ _ _ _
        case c2 => intro u hu; simp at hu; rcases hu with rfl | rfl <;> rfl
        case c3 => unfold maxLen; omega
        case c4 => omega
        case c5 => simp; omega
        intro v' w1 hown' hgrow _
        obtain ⟨g', cap', rfl⟩ := own_shape hown' (by omega)
        have hF := Lib.hid (hS'.append hown' hgrow)
        have cL' := hF.out.1
        have fL' := hF.out.2.1
        clear hown' hgrow
        go_wp2
        go_end0
        exact ⟨rfl, ⟨_, by rw [← HRr.out]; exact hF.out.2.2.1 (by omega)⟩, hB.trans hF.out.2.2.2⟩

theorem FSt.start (w : World) (n : Int) : FSt w.heap.size n (.slice none 0 0) [] ((w.alloc (.cells #[.slice none 0 0] 35)).alloc (.cells #[.int .i64 n] 3)) := by
  refine ⟨by simp, ?_, ?_, World.ownsRow_nil _ _ _ _⟩
  · rw [Below.heap_alloc _ _ _ (by simp)]; exact heap_alloc_new _ _
  · have := heap_alloc_new (w.alloc (.cells #[.slice none 0 0] 35)) (.cells #[.int .i64 n] 3)
    rw [World.size_alloc] at this
    exact this

/-- Where the loop of factors stands: the first k powers are listed, the product of the others is the rest. -/
structure FAt (N : Nat) (n : Int) (L : List (Nat × Nat)) (lo : Nat) (k : Nat) (R : Int) (v : Value) (w0 w : World) : Prop where
  st : FSt N R v (L.take k) w
  below : Below N w0 w
  le : k ≤ L.length
  rest : R = (M.prodP (L.drop k) : Int)
  fac : M.FacFrom lo (L.drop k)
  rle : 1 ≤ R ∧ R ≤ 2147483647
  len : (L.take k).length ≤ 1000

theorem FAt.next {N : Nat} {n : Int} {L : List (Nat × Nat)} {d k k' e r : Nat} {R : Int} {v v' : Value} {w0 w w' : World} (h : FAt N n L (d - 1) k R v w0 w) (hL : M.FacFrom 1 L) (hp : M.prodP L ≤ 2147483647)
    (T : M.Taken L k d k' e r) (hS : FSt N r v' (L.take k ++ if e = 0 then [] else [(d, e)]) w') (hB : Below N w w') : FAt N n L d k' r v' w0 w' := by
  have h1 := hL.prod_drop_le k'
  have h2 := T.fac.pos
  have h3 := hL.length_le hp
  refine ⟨T.list ▸ hS, h.below.trans hB, T.le, by rw [T.rest], T.fac, ?_, by simp; omega⟩
  rw [T.rest]; omega

theorem FAt.ready {N : Nat} {n : Int} {L : List (Nat × Nat)} {d k : Nat} {R : Int} {v : Value} {w0 w : World} (h : FAt N n L (d - 1) k R v w0 w) (hd : 2 ≤ d) :
    ∃ k' e r, M.Taken L k d k' e r ∧ e ≤ 1000 ∧ Hid (R.toNat = d ^ e * r ∧ ¬ d ∣ r ∧ 1 ≤ r) := by
  obtain ⟨k', e, r, T⟩ := M.take_step hd h.le h.fac
  have hv := T.val
  have hR : R.toNat = M.prodP (L.drop k) := by rw [h.rest]; simp
  refine ⟨k', e, r, T, ?_, by rw [hR]; exact hv⟩
  have h1 : 2 ^ e ≤ d ^ e := Nat.pow_le_pow_left hd e
  have h2 : d ^ e * 1 ≤ d ^ e * r := Nat.mul_le_mul_left _ hv.2.2
  have h3 := h.rle
  have := M.lt_of_two_pow (e := e) (n := M.prodP (L.drop k)) (by omega) (by omega)
  omega

theorem FAt.odd {N : Nat} {n : Int} {L : List (Nat × Nat)} {k : Nat} {R K : Int} {v : Value} {w0 w : World} (h : FAt N n L K.toNat k R v w0 w) (ho : K % 2 = 1) (h3 : 3 ≤ K) : FAt N n L ((K + 2).toNat - 1) k R v w0 w :=
  ⟨h.st, h.below, h.le, h.rest, by rw [show (K + 2).toNat - 1 = K.toNat + 1 by omega]; exact h.fac.next_odd (by omega) (by omega), h.rle, h.len⟩

theorem FAt.last {N : Nat} {n : Int} {L : List (Nat × Nat)} {k : Nat} {R K : Int} {v : Value} {w0 w : World} (h : FAt N n L (K.toNat - 1) k R v w0 w) (hK : 3 ≤ K) (hs : R < K * K) :
    (R ≤ 1 → L.take k = L) ∧ (1 < R → L.take k ++ [(R.toNat, 1)] = L) := by
  have hr := h.rest
  have hsn : M.prodP (L.drop k) < K.toNat * K.toNat := by
    obtain ⟨x, rfl⟩ := Int.eq_ofNat_of_zero_le (show 0 ≤ K by omega)
    rw [Int.toNat_natCast]
    have : (M.prodP (L.drop k) : Int) < (x * x : Nat) := by rw [← hr]; exact_mod_cast hs
    omega
  have hta := List.take_append_drop k L
  rcases h.fac.last (by omega) hsn with ⟨h1, h2⟩ | ⟨h1, h2, _⟩
  · refine ⟨fun _ => ?_, fun hc => by omega⟩
    rw [h1, List.append_nil] at hta
    exact hta
  · refine ⟨fun hc => by omega, fun _ => ?_⟩
    have e : R.toNat = M.prodP (L.drop k) := by omega
    rw [e, ← h1, hta]

theorem sq_bd' (k : Int) (h0 : 0 ≤ k) (h : k ≤ 46342) : 0 ≤ k * k ∧ k * k ≤ 2147580964 := by
  have h1 : k * k ≤ 46342 * 46342 := Int.mul_le_mul h h h0 (by omega)
  exact ⟨Int.mul_nonneg h0 h0, by omega⟩

theorem _root_.Go.World.ownsRow.base_le {w : World} {base b size n : Nat} {e : TypeId} {v : Value} {xs : List Value} (h : w.ownsRow base e size v n xs) (hb : b ≤ base) : w.ownsRow b e size v n xs := by
  refine ⟨h.1, ?_⟩
  rcases h.2 with h2 | ⟨g, cap, cur, h3, h4, h5⟩
  · exact .inl h2
  · exact .inr ⟨g, cap, cur, h3, by omega, h5⟩

set_option maxRecDepth 100000 in
set_option maxHeartbeats 400000 in
theorem factors_any (n : Int) (L : List (Nat × Nat)) (w : World) (hn : 1 ≤ n) (hn2 : n ≤ 2147483647) (hL : Hid (M.IsFac n.toNat L)) :
    Calls Try.prog 18 #[.int .i64 n] w fun x w' => (∃ v, x = .returned v ∧ w'.ownsRow w.heap.size 41 2 v L.length (flat L)) ∧ Below w.heap.size w w' := by
  have hp := Lib.hid (show M.prodP L ≤ 2147483647 by rw [hL.out.2]; omega)
  have h0 : FAt w.heap.size n L (2 - 1) 0 n (.slice none 0 0) w ((w.alloc (.cells #[.slice none 0 0] 35)).alloc (.cells #[.int .i64 n] 3)) :=
    ⟨FSt.start w n, ((Below.refl _ _).alloc (Nat.le_refl _) _).alloc (by simp) _, by omega, by rw [List.drop_zero, hL.out.2]; omega, hL.out.1, ⟨hn, hn2⟩, by simp⟩
  obtain ⟨k1, e1, r1, T1, he1, hv1⟩ := h0.ready (by omega)
  have H0 := Lib.hid h0
  have HT1 := Lib.hid T1
  clear h0 T1
  go_enter Try.func18, Try.ntmps18
  go_wp2_with (fail)
  refine (take_any w.heap.size n 2 (.slice none 0 0) [] e1 r1 _ (FSt.start w n) hn hn2 (by omega) (by omega) (by simp) he1 hv1).mono ?_
  rintro x w1 ⟨rfl, ⟨v1, hS1⟩, hB1⟩
  have HF := Lib.hid (H0.out.next hL.out.1 hp.out HT1.out hS1 hB1)
  clear hS1 hB1
  go_wp2_with (fail)
  go_loopw [6] (fun x wr => ∃ (K R : Int) (k : Nat) (v : Value), x = .int .i64 K ∧ 3 ≤ K ∧ K ≤ 46342 ∧ Hid (K % 2 = 1) ∧ Hid (FAt w.heap.size n L (K.toNat - 1) k R v w wr)) (fun x _ => (46343 - intOf x).toNat)
  case atStart => exact ⟨3, r1, k1, v1, rfl, by omega, by omega, (show (3 : Int) % 2 = 1 by decide), HF.out⟩
  case round =>
    obtain ⟨K, R, k, v, rfl, hK3, hK, hKo, HA⟩ := hrel
    have cR := cell_of_one HA.out.st.rest
    have hR0 := HA.out.rle.1
    have hR1 := HA.out.rle.2
    have hsq := sq_bd' K (by omega) hK
    by_cases hs : K * K ≤ R
    · have hsm := sq_small K R (by omega) (by omega) hs
      obtain ⟨k', e, r, T, he, hv⟩ := HA.out.ready (by omega)
      have HT := Lib.hid T
      clear T
      go_wp2_with (go_at_call 30; refine (take_any w.heap.size R K v (L.take k) e r _ HA.out.st (by omega) (by omega) (by omega) (by omega) HA.out.len he hv).mono ?_; rintro x w2 ⟨rfl, ⟨v2, hS2⟩, hB2⟩; have HS2 := Lib.hid (And.intro hS2 hB2); clear hS2 hB2)
      have HF2 := Lib.hid (HA.out.next hL.out.1 hp.out HT.out HS2.out.1 HS2.out.2)
      go_roundw
      case rel => exact ⟨K + 2, r, k', v2, rfl, by omega, by omega, by have := hKo.out; show (K + 2) % 2 = 1; omega, HF2.out.odd hKo.out hK3⟩
      case measure => simp [intOf]; omega
    · have hlast := Lib.hid (HA.out.last (by omega) (by omega))
      by_cases h1 : 1 < R
      · have hB : Hid (L.take k ++ [(R.toNat, 1)] = L) := hlast.out.2 h1
        have hv : Hid (R.toNat = R.toNat ^ 1 * 1 ∧ ¬ R.toNat ∣ 1 ∧ 1 ≤ 1) := ⟨by simp, fun hd => by have := Nat.le_of_dvd (by omega) hd; omega, by omega⟩
        go_wp2_with (go_at_call 30; refine (take_any w.heap.size R R v (L.take k) 1 1 _ HA.out.st (by omega) (by omega) (by omega) (by omega) HA.out.len (by omega) hv).mono ?_; rintro x w2 ⟨rfl, ⟨v2, hS2⟩, hB2⟩; have HS2 := Lib.hid (And.intro hS2 hB2); clear hS2 hB2; have cL := cell_of_one HS2.out.1.list)
        go_ret
        refine ⟨⟨v2, rfl, ?_⟩, HA.out.below.trans HS2.out.2⟩
        have := HS2.out.1.own.base_le (b := w.heap.size) (by omega)
        rw [if_neg (by omega), hB.out] at this
        exact this
      · have hB : Hid (L.take k = L) := hlast.out.1 (by omega)
        have cL := cell_of_one HA.out.st.list
        go_wp2_with (fail)
        go_ret
        refine ⟨⟨v, rfl, ?_⟩, HA.out.below⟩
        have := HA.out.st.own.base_le (b := w.heap.size) (by omega)
        rw [hB.out] at this
        exact this

end Go.Proofs.Ytldfbadcigdbkaa
