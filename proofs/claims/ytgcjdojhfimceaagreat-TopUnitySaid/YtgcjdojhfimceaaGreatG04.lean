/- Texts of the proof, laid together. -/
import Derived.Test.YtgcjdojhfimceaaGreatG03
import Derived.Test.YtgcjdojhfimceaaGreatG01
import Derived.OneCell
import Derived.Maps.OwnSet
namespace Go.Proofs.YtgcjdojhfimceaaGreat
open Go.RowKit

/-- The cells of a list of powers. -/
def flat (l : List (Nat × Nat)) : List Value := l.flatMap fun x => [.int .i64 (x.1 : Int), .int .i64 (x.2 : Int)]

theorem flat_length (l : List (Nat × Nat)) : (flat l).length = l.length * 2 := by
  induction l with
  | nil => rfl
  | cons x l ih => simp [flat] at ih ⊢; omega
theorem flat_append (l l' : List (Nat × Nat)) : flat (l ++ l') = flat l ++ flat l' := by simp [flat]

/-- The two captured variables of factors, in the blocks N and N + 1. -/
structure FSt (N : Nat) (R : Int) (v : Value) (l : List (Nat × Nat)) (w : World) : Prop where
  size : N + 1 < w.heap.size
  list : w.heap[N]? = some (.cells #[v] 51 (0, 0))
  rest : w.heap[N + 1]? = some (.cells #[.int .i64 R] 3 (0, 0))
  own : w.ownsRow (N + 2) 50 2 v l.length (flat l)

theorem FSt.setRest {N : Nat} {R : Int} {v : Value} {l : List (Nat × Nat)} {w : World} (h : FSt N R v l w) (R' : Int) : FSt N R' v l (w.setCell ⟨N + 1, 0, none⟩ (.int .i64 R')) ∧ Below N w (w.setCell ⟨N + 1, 0, none⟩ (.int .i64 R')) := by
  refine ⟨⟨?_, ?_, one_setCell h.rest, ownsRow_setCell_below h.own (by simp) _⟩, (Below.refl _ _).setCell (by simp) _⟩
  · have := h.size; simpa [World.setCell] using this
  · rw [Below.heap_setCell _ _ _ _ (by simp)]; exact h.list

theorem Tryz.infoP : (Tryz.prog.info? 50).map (fun i => (i.zero, i.size, i.bytes)) = some (some (.agg #[.int .i64 0, .int .i64 0]), 2, 16) := by kernel_rfl

theorem own_shape {w : World} {base size n : Nat} {e : TypeId} {v : Value} {xs : List Value} (h : w.ownsRow base e size v n xs) (hn : n ≠ 0) : ∃ g cap, v = .slice (some ⟨g, 0, none⟩) n cap := by
  rcases h.2 with ⟨_, h0⟩ | ⟨g, cap, _, hv, _⟩
  · exact absurd h0 hn
  · exact ⟨g, cap, hv⟩

theorem FSt.append {N : Nat} {R : Int} {v v' : Value} {l : List (Nat × Nat)} {w w1 : World} {d : Int} {k : Nat} {o : Obj} (h : FSt N R v l w)
    (hown : w1.ownsRow (N + 2) 50 2 v' (l.length + 1) (flat l ++ [.int .i64 d, .int .i64 k])) (hg : (w.alloc o).grownBy w1 v.ownBlock) :
    w1.cell? ⟨N, 0, none⟩ = some v ∧ w1.frozen? ⟨N, 0, none⟩ = false ∧ (0 ≤ d → FSt N R v' (l ++ [(d.toNat, k)]) (w1.setCell ⟨N, 0, none⟩ v')) ∧ Below N w (w1.setCell ⟨N, 0, none⟩ v') := by
  have hsz := h.size
  have hlt := h.own.lt
  have hrow : ∀ b, b < N + 2 → some b ≠ v.ownBlock := fun b hb e => by have := (hlt b e.symm).1; omega
  have hbl : ∀ b, b < N + 2 → w1.heap[b]? = w.heap[b]? := fun b hb => by
    rw [hg.block b (by simp; omega) (hrow b hb), Below.heap_alloc _ _ _ (by omega)]
  have hsz1 := hg.size
  rw [World.size_alloc] at hsz1
  have hL : w1.heap[N]? = some (.cells #[v] 51 (0, 0)) := (hbl N (by omega)).trans h.list
  refine ⟨cell_of_one hL, free_of_one hL, fun hd => ⟨?_, one_setCell hL, ?_, ?_⟩, ?_⟩
  · simp [World.setCell]; omega
  · rw [Below.heap_setCell _ _ _ _ (by simp), hbl _ (by omega)]; exact h.rest
  · have e : flat (l ++ [(d.toNat, k)]) = flat l ++ [.int .i64 d, .int .i64 k] := by
      rw [flat_append]; simp [flat, Int.toNat_of_nonneg hd]
    rw [e, show (l ++ [(d.toNat, k)]).length = l.length + 1 by simp]
    exact ownsRow_setCell_below hown (by simp) _
  · exact (((Below.refl N w).alloc (by omega) o).grown hg (by simp; omega) (fun b hb => by have := (hlt b hb).1; omega)).setCell (by simp) _

theorem take_div (R' d : Int) (e r k : Nat) (h0 : 1 ≤ R') (hR : R' ≤ 2147483647) (hd : 2 ≤ d) (hk : k < e) (h : R'.toNat = d.toNat ^ (e - k) * r) :
    R' % d = 0 ∧ (1 ≤ R' / d ∧ R' / d ≤ 2147483647) ∧ (R' / d).toNat = d.toNat ^ (e - k - 1) * r := by
  obtain ⟨X, rfl⟩ := Int.eq_ofNat_of_zero_le (show 0 ≤ R' by omega)
  obtain ⟨D, rfl⟩ := Int.eq_ofNat_of_zero_le (show 0 ≤ d by omega)
  simp only [Int.toNat_natCast] at h ⊢
  have h1 : X = D * (D ^ (e - k - 1) * r) := by
    rw [h, ← Nat.mul_assoc, ← Nat.pow_succ', show (e - k - 1).succ = e - k by omega]
  have hm : X % D = 0 := Nat.mod_eq_zero_of_dvd ⟨_, h1⟩
  have hq : X / D = D ^ (e - k - 1) * r := by
    rw [h1]; exact Nat.mul_div_cancel_left _ (by omega)
  have e1 : ((X : Int) / (D : Int)) = ((X / D : Nat) : Int) := rfl
  have e2 : ((X : Int) % (D : Int)) = ((X % D : Nat) : Int) := rfl
  have hle : X / D ≤ X := Nat.div_le_self _ _
  have hpos : X / D ≠ 0 := fun e0 => by
    rw [← hq, e0] at h1; simp at h1; omega
  rw [e1, e2]
  refine ⟨by omega, by omega, by rw [Int.toNat_natCast]; exact hq⟩

set_option maxRecDepth 100000 in
set_option maxHeartbeats 400000 in
theorem take_any (N : Nat) (R d : Int) (v : Value) (l : List (Nat × Nat)) (e r : Nat) (w : World) (hS : FSt N R v l w) (hR0 : 1 ≤ R) (hR : R ≤ 2147483647) (hd : 2 ≤ d) (hd2 : d ≤ 2147483647)
    (hl : l.length ≤ 1000) (he2 : e ≤ 1000) (he : Hid (R.toNat = d.toNat ^ e * r ∧ ¬ d.toNat ∣ r ∧ 1 ≤ r)) :
    Calls Tryz.prog 43 #[.int .i64 d, .pointer (some ⟨N + 1, 0, none⟩), .pointer (some ⟨N, 0, none⟩)] w fun x w' => x = .returned (.tuple #[]) ∧
      (∃ v', FSt N r v' (l ++ if e = 0 then [] else [(d.toNat, e)]) w') ∧ Below N w w' := by
  obtain ⟨i0, hi, hz0, hz1, hz2⟩ := info_parts Tryz.infoP
  go_enter Tryz.func43, Tryz.ntmps43
  go_wp2
  go_loopw [4] (fun x wr => ∃ (k : Nat) (R' : Int), x = .int .i64 k ∧ 1 ≤ R' ∧ R' ≤ 2147483647 ∧ k ≤ e ∧ Hid (R'.toNat = d.toNat ^ (e - k) * r) ∧ FSt N R' v l wr ∧ Below N w wr) (fun x _ => e - (intOf x).toNat)
  case atStart => exact ⟨0, R, rfl, hR0, hR, by omega, he.out.1, hS, Below.refl _ _⟩
  case round =>
    obtain ⟨k, R', rfl, hR0', hR', hk, HR, hS', hB⟩ := hrel
    have cR := cell_of_one hS'.rest
    have fR := free_of_one hS'.rest
    by_cases hlt : k < e
    · have hdiv := Lib.hid (take_div R' d e r k hR0' hR' hd hlt HR.out)
      have ht : ((R' % d : Int) == 0) = true := by simpa using hdiv.out.1
      have hq := hdiv.out.2.1
      go_wp2
      go_roundw
      case rel => exact ⟨k + 1, R' / d, by go_num, hq.1, hq.2, by omega, by rw [show e - (k + 1) = e - k - 1 by omega]; exact hdiv.out.2.2, (hS'.setRest _).1, hB.trans (hS'.setRest _).2⟩
      case measure => simp [intOf]; omega
    · obtain rfl : k = e := by omega
      have hRr : R' = r := by have := HR.out; simp at this; omega
      have HRr := Lib.hid hRr
      have ht : ((R' % d : Int) == 0) = false := by
        rw [beq_eq_false_iff_ne]
        intro h0
        apply he.out.2.1
        have h1 := Int.dvd_of_emod_eq_zero h0
        rw [hRr] at h1
        obtain ⟨D, rfl⟩ := Int.eq_ofNat_of_zero_le (show 0 ≤ d by omega)
        rw [Int.toNat_natCast]
        exact_mod_cast h1
      clear hRr
      by_cases h0 : k = 0
      · subst h0
        go_wp2
        go_end0
        exact ⟨rfl, ⟨v, by rw [← HRr.out]; simpa using hS'⟩, hB⟩
      · have hk0 : 0 < k := by omega
        have cL := cell_of_one hS'.list
        have fL := free_of_one hS'.list
        have hown := hS'.own
        have hsz := hS'.size
        go_wp2_with (at_builtin; refine wpList_append_own _ rfl _ _ 51 rfl (N + 2) 50 i0 (.agg #[.int .i64 0, .int .i64 0]) 2 16 Tryz.underlying51 hi hz0 hz1 hz2 rfl (by decide) _ _ _ rfl (hown.alloc _) ⟨wr.heap.size, 0, none⟩ 1 1 [.int .i64 d, .int .i64 k] rfl rfl ?c1 ?c2 ?c3 ?c4 ?c5 ?_)
        case c1 => exact cell_two_new _ _ _ _
        case c2 => intro u hu; simp at hu; rcases hu with rfl | rfl <;> rfl
        case c3 => unfold maxLen; omega
        case c4 => omega
        case c5 => simp; omega
        intro v' w1 hown' hgrow _
        obtain ⟨g', cap', rfl⟩ := own_shape hown' (by omega)
        have hF := Lib.hid (hS'.append hown' hgrow)
        have cL' := hF.out.1
        have fL' := hF.out.2.1
        clear hown' hgrow
        go_wp2
        go_end0
        exact ⟨rfl, ⟨_, by rw [← HRr.out]; exact hF.out.2.2.1 (by omega)⟩, hB.trans hF.out.2.2.2⟩

theorem FSt.start (w : World) (n : Int) : FSt w.heap.size n (.slice none 0 0) [] ((w.alloc (.cells #[.slice none 0 0] 51)).alloc (.cells #[.int .i64 n] 3)) := by
  refine ⟨by simp, ?_, ?_, World.ownsRow_nil _ _ _ _⟩
  · rw [Below.heap_alloc _ _ _ (by simp)]; exact heap_alloc_new _ _
  · have := heap_alloc_new (w.alloc (.cells #[.slice none 0 0] 51)) (.cells #[.int .i64 n] 3)
    rw [World.size_alloc] at this
    exact this

/-- Where the loop of factors stands: the first k powers are listed, the product of the others is the rest. -/
structure FAt (N : Nat) (n : Int) (L : List (Nat × Nat)) (lo : Nat) (k : Nat) (R : Int) (v : Value) (w0 w : World) : Prop where
  st : FSt N R v (L.take k) w
  below : Below N w0 w
  le : k ≤ L.length
  rest : R = (M.prodP (L.drop k) : Int)
  fac : M.FacFrom lo (L.drop k)
  rle : 1 ≤ R ∧ R ≤ 2147483647
  len : (L.take k).length ≤ 1000

theorem FAt.next {N : Nat} {n : Int} {L : List (Nat × Nat)} {d k k' e r : Nat} {R : Int} {v v' : Value} {w0 w w' : World} (h : FAt N n L (d - 1) k R v w0 w) (hL : M.FacFrom 1 L) (hp : M.prodP L ≤ 2147483647)
    (T : M.Taken L k d k' e r) (hS : FSt N r v' (L.take k ++ if e = 0 then [] else [(d, e)]) w') (hB : Below N w w') : FAt N n L d k' r v' w0 w' := by
  have h1 := hL.prod_drop_le k'
  have h2 := T.fac.pos
  have h3 := hL.length_le hp
  refine ⟨T.list ▸ hS, h.below.trans hB, T.le, by rw [T.rest], T.fac, ?_, by simp; omega⟩
  rw [T.rest]; omega

theorem FAt.ready {N : Nat} {n : Int} {L : List (Nat × Nat)} {d k : Nat} {R : Int} {v : Value} {w0 w : World} (h : FAt N n L (d - 1) k R v w0 w) (hd : 2 ≤ d) :
    ∃ k' e r, M.Taken L k d k' e r ∧ e ≤ 1000 ∧ Hid (R.toNat = d ^ e * r ∧ ¬ d ∣ r ∧ 1 ≤ r) := by
  obtain ⟨k', e, r, T⟩ := M.take_step hd h.le h.fac
  have hv := T.val
  have hR : R.toNat = M.prodP (L.drop k) := by rw [h.rest]; simp
  refine ⟨k', e, r, T, ?_, by rw [hR]; exact hv⟩
  have h1 : 2 ^ e ≤ d ^ e := Nat.pow_le_pow_left hd e
  have h2 : d ^ e * 1 ≤ d ^ e * r := Nat.mul_le_mul_left _ hv.2.2
  have h3 := h.rle
  have := M.lt_of_two_pow (e := e) (n := M.prodP (L.drop k)) (by omega) (by omega)
  omega

theorem FAt.odd {N : Nat} {n : Int} {L : List (Nat × Nat)} {k : Nat} {R K : Int} {v : Value} {w0 w : World} (h : FAt N n L K.toNat k R v w0 w) (ho : K % 2 = 1) (h3 : 3 ≤ K) : FAt N n L ((K + 2).toNat - 1) k R v w0 w :=
  ⟨h.st, h.below, h.le, h.rest, by rw [show (K + 2).toNat - 1 = K.toNat + 1 by omega]; exact h.fac.next_odd (by omega) (by omega), h.rle, h.len⟩

theorem FAt.last {N : Nat} {n : Int} {L : List (Nat × Nat)} {k : Nat} {R K : Int} {v : Value} {w0 w : World} (h : FAt N n L (K.toNat - 1) k R v w0 w) (hK : 3 ≤ K) (hs : R < K * K) :
    (R ≤ 1 → L.take k = L) ∧ (1 < R → L.take k ++ [(R.toNat, 1)] = L) := by
  have hr := h.rest
  have hsn : M.prodP (L.drop k) < K.toNat * K.toNat := by
    obtain ⟨x, rfl⟩ := Int.eq_ofNat_of_zero_le (show 0 ≤ K by omega)
    rw [Int.toNat_natCast]
    have : (M.prodP (L.drop k) : Int) < (x * x : Nat) := by rw [← hr]; exact_mod_cast hs
    omega
  have hta := List.take_append_drop k L
  rcases h.fac.last (by omega) hsn with ⟨h1, h2⟩ | ⟨h1, h2, _⟩
  · refine ⟨fun _ => ?_, fun hc => by omega⟩
    rw [h1, List.append_nil] at hta
    exact hta
  · refine ⟨fun hc => by omega, fun _ => ?_⟩
    have e : R.toNat = M.prodP (L.drop k) := by omega
    rw [e, ← h1, hta]

theorem sq_bd' (k : Int) (h0 : 0 ≤ k) (h : k ≤ 46342) : 0 ≤ k * k ∧ k * k ≤ 2147580964 := by
  have h1 : k * k ≤ 46342 * 46342 := Int.mul_le_mul h h h0 (by omega)
  exact ⟨Int.mul_nonneg h0 h0, by omega⟩

theorem _root_.Go.World.ownsRow.base_le {w : World} {base b size n : Nat} {e : TypeId} {v : Value} {xs : List Value} (h : w.ownsRow base e size v n xs) (hb : b ≤ base) : w.ownsRow b e size v n xs := by
  refine ⟨h.1, ?_⟩
  rcases h.2 with h2 | ⟨g, cap, cur, h3, h4, h5⟩
  · exact .inl h2
  · exact .inr ⟨g, cap, cur, h3, by omega, h5⟩

set_option maxRecDepth 100000 in
set_option maxHeartbeats 400000 in
theorem factors_any (n : Int) (L : List (Nat × Nat)) (w : World) (hn : 1 ≤ n) (hn2 : n ≤ 2147483647) (hL : Hid (M.IsFac n.toNat L)) :
    Calls Tryz.prog 22 #[.int .i64 n] w fun x w' => (∃ v, x = .returned v ∧ w'.ownsRow w.heap.size 50 2 v L.length (flat L)) ∧ Below w.heap.size w w' := by
  have hp := Lib.hid (show M.prodP L ≤ 2147483647 by rw [hL.out.2]; omega)
  have h0 : FAt w.heap.size n L (2 - 1) 0 n (.slice none 0 0) w ((w.alloc (.cells #[.slice none 0 0] 51)).alloc (.cells #[.int .i64 n] 3)) :=
    ⟨FSt.start w n, ((Below.refl _ _).alloc (Nat.le_refl _) _).alloc (by simp) _, by omega, by rw [List.drop_zero, hL.out.2]; omega, hL.out.1, ⟨hn, hn2⟩, by simp⟩
  obtain ⟨k1, e1, r1, T1, he1, hv1⟩ := h0.ready (by omega)
  have H0 := Lib.hid h0
  have HT1 := Lib.hid T1
  clear h0 T1
  go_enter Tryz.func22, Tryz.ntmps22
  go_wp2_with (fail)
  refine (take_any w.heap.size n 2 (.slice none 0 0) [] e1 r1 _ (FSt.start w n) hn hn2 (by omega) (by omega) (by simp) he1 hv1).mono ?_
  rintro x w1 ⟨rfl, ⟨v1, hS1⟩, hB1⟩
  have HF := Lib.hid (H0.out.next hL.out.1 hp.out HT1.out hS1 hB1)
  clear hS1 hB1
  go_wp2_with (fail)
  go_loopw [6] (fun x wr => ∃ (K R : Int) (k : Nat) (v : Value), x = .int .i64 K ∧ 3 ≤ K ∧ K ≤ 46342 ∧ Hid (K % 2 = 1) ∧ Hid (FAt w.heap.size n L (K.toNat - 1) k R v w wr)) (fun x _ => (46343 - intOf x).toNat)
  case atStart => exact ⟨3, r1, k1, v1, rfl, by omega, by omega, (show (3 : Int) % 2 = 1 by decide), HF.out⟩
  case round =>
    obtain ⟨K, R, k, v, rfl, hK3, hK, hKo, HA⟩ := hrel
    have cR := cell_of_one HA.out.st.rest
    have hR0 := HA.out.rle.1
    have hR1 := HA.out.rle.2
    have hsq := sq_bd' K (by omega) hK
    by_cases hs : K * K ≤ R
    · have hsm := sq_small K R (by omega) (by omega) hs
      obtain ⟨k', e, r, T, he, hv⟩ := HA.out.ready (by omega)
      have HT := Lib.hid T
      clear T
      go_wp2_with (go_at_call 43; refine (take_any w.heap.size R K v (L.take k) e r _ HA.out.st (by omega) (by omega) (by omega) (by omega) HA.out.len he hv).mono ?_; rintro x w2 ⟨rfl, ⟨v2, hS2⟩, hB2⟩; have HS2 := Lib.hid (And.intro hS2 hB2); clear hS2 hB2)
      have HF2 := Lib.hid (HA.out.next hL.out.1 hp.out HT.out HS2.out.1 HS2.out.2)
      go_roundw
      case rel => exact ⟨K + 2, r, k', v2, rfl, by omega, by omega, by have := hKo.out; show (K + 2) % 2 = 1; omega, HF2.out.odd hKo.out hK3⟩
      case measure => simp [intOf]; omega
    · have hlast := Lib.hid (HA.out.last (by omega) (by omega))
      by_cases h1 : 1 < R
      · have hB : Hid (L.take k ++ [(R.toNat, 1)] = L) := hlast.out.2 h1
        have hv : Hid (R.toNat = R.toNat ^ 1 * 1 ∧ ¬ R.toNat ∣ 1 ∧ 1 ≤ 1) := ⟨by simp, fun hd => by have := Nat.le_of_dvd (by omega) hd; omega, by omega⟩
        go_wp2_with (go_at_call 43; refine (take_any w.heap.size R R v (L.take k) 1 1 _ HA.out.st (by omega) (by omega) (by omega) (by omega) HA.out.len (by omega) hv).mono ?_; rintro x w2 ⟨rfl, ⟨v2, hS2⟩, hB2⟩; have HS2 := Lib.hid (And.intro hS2 hB2); clear hS2 hB2; have cL := cell_of_one HS2.out.1.list)
        go_ret
        refine ⟨⟨v2, rfl, ?_⟩, HA.out.below.trans HS2.out.2⟩
        have := HS2.out.1.own.base_le (b := w.heap.size) (by omega)
        rw [if_neg (by omega), hB.out] at this
        exact this
      · have hB : Hid (L.take k = L) := hlast.out.1 (by omega)
        have cL := cell_of_one HA.out.st.list
        go_wp2_with (fail)
        go_ret
        refine ⟨⟨v, rfl, ?_⟩, HA.out.below⟩
        have := HA.out.st.own.base_le (b := w.heap.size) (by omega)
        rw [hB.out] at this
        exact this

end Go.Proofs.YtgcjdojhfimceaaGreat

namespace Go.Proofs.YtgcjdojhfimceaaGreat
open Go.RowKit

/-- A slice that reads as the cells xs, n elements of size cells each. -/
def Rd (w : World) (v : Value) (size n : Nat) (xs : List Value) : Prop :=
  xs.length = n * size ∧ ∃ (a : Option Addr) (cap : Nat), v = .slice a n cap ∧ n ≤ cap ∧ (n = 0 ∨ ∃ b, a = some ⟨b, 0, none⟩ ∧ b < w.heap.size ∧ ∀ j u, xs[j]? = some u → w.cell? ⟨b, j, none⟩ = some u)

theorem Rd.of_own {w : World} {base size n : Nat} {e : TypeId} {v : Value} {xs : List Value} (h : w.ownsRow base e size v n xs) : Rd w v size n xs := by
  refine ⟨h.1, ?_⟩
  rcases h.2 with ⟨h1, h2⟩ | ⟨g, cap, cur, hv, h3, h4, h5, h6, h7⟩
  · subst h2; exact ⟨none, 0, h1, Nat.le_refl _, .inl rfl⟩
  · refine ⟨_, cap, hv, h5, .inr ⟨g, rfl, lt_of_block h4, fun j u hu => ?_⟩⟩
    have := h.cells (g := g) (by rw [hv]; rfl) j u hu
    have hadd : (⟨g, 0, none⟩ : Addr).add j = ⟨g, j, none⟩ := by unfold Addr.add; split <;> simp_all
    rw [hadd] at this
    exact this

theorem Rd.below {w w' : World} {v : Value} {size n B : Nat} {xs : List Value} (h : Rd w v size n xs) (hB : Below B w w') (hle : w.heap.size ≤ B) : Rd w' v size n xs := by
  obtain ⟨h1, a, cap, hv, hc, h2⟩ := h
  refine ⟨h1, a, cap, hv, hc, ?_⟩
  rcases h2 with h2 | ⟨b, ha, hb, h2⟩
  · exact .inl h2
  · exact .inr ⟨b, ha, by have := hB.size; omega, fun j u hu => by rw [hB.cell (p := ⟨b, j, none⟩) (by show b < B; omega)]; exact h2 j u hu⟩

theorem cell_one_at (W : World) (v : Value) (t : TypeId) (b : Nat) (hb : b = W.heap.size) : ∀ j u, [v][j]? = some u → (W.alloc (.cells #[v] t)).cell? ((⟨b, 0, none⟩ : Addr).add j) = some u := by
  subst hb; exact cell_one_new _ _ _
theorem cell_two_at (W : World) (v v' : Value) (t : TypeId) (b : Nat) (hb : b = W.heap.size) : ∀ j u, [v, v'][j]? = some u → (W.alloc (.cells #[v, v'] t)).cell? ((⟨b, 0, none⟩ : Addr).add j) = some u := by
  subst hb; exact cell_two_new _ _ _ _

theorem below_drewN {B : Nat} {a w : World} (h : Below B a w) (n : Nat) : Below B a (w.drewN n) := h.trans ⟨rfl, rfl, rfl, Nat.le_refl _, fun _ _ => rfl⟩

theorem flat_get (L : List (Nat × Nat)) (k : Nat) (h : k < L.length) : (flat L)[k * 2]? = some (.int .i64 (L[k].1 : Int)) ∧ (flat L)[k * 2 + 1]? = some (.int .i64 (L[k].2 : Int)) := by
  induction L generalizing k with
  | nil => simp at h
  | cons x L ih =>
    cases k with
    | zero => simp [flat]
    | succ k =>
      have := ih k (by simpa using h)
      have e : flat (x :: L) = [.int .i64 (x.1 : Int), .int .i64 (x.2 : Int)] ++ flat L := by simp [flat]
      rw [e, List.getElem?_append_right (by simp; omega), List.getElem?_append_right (by simp; omega)]
      simp only [List.length_cons, List.length_nil, List.getElem_cons_succ]
      rw [show (k + 1) * 2 - (0 + 1 + 1) = k * 2 by omega, show (k + 1) * 2 + 1 - (0 + 1 + 1) = k * 2 + 1 by omega]
      exact this

/-- The primes of a factorization, as cells. -/
def heads (L : List (Nat × Nat)) : List Value := L.map fun x => .int .i64 (x.1 : Int)
theorem heads_length (L : List (Nat × Nat)) : (heads L).length = L.length := by simp [heads]
theorem heads_take (L : List (Nat × Nat)) (k : Nat) (h : k < L.length) : heads (L.take (k + 1)) = heads (L.take k) ++ [.int .i64 (L[k].1 : Int)] := by
  unfold heads; rw [List.take_succ_eq_append_getElem h, List.map_append]; rfl

theorem Tryz.infoI : (Tryz.prog.info? 3).map (fun i => (i.zero, i.size, i.bytes)) = some (some (.int .i64 0), 1, 8) := by kernel_rfl

set_option maxRecDepth 100000 in
set_option maxHeartbeats 400000 in
theorem primesOf_any (n : Int) (L : List (Nat × Nat)) (w : World) (hn : 1 ≤ n) (hn2 : n ≤ 2147483647) (hL : Hid (M.IsFac n.toNat L)) :
    Calls Tryz.prog 38 #[.int .i64 n] w fun x w' => (∃ v, x = .returned v ∧ w'.ownsRow w.heap.size 3 1 v L.length (heads L)) ∧ Below w.heap.size w w' := by
  obtain ⟨i0, hi, hz0, hz1, hz2⟩ := info_parts Tryz.infoI
  have hlen : L.length ≤ 30 := hL.out.1.length_le (by rw [hL.out.2]; omega)
  go_enter Tryz.func38, Tryz.ntmps38
  go_wp2_with (go_at_call 22; refine (factors_any n L _ hn hn2 hL).mono ?_; rintro x w1 ⟨⟨vf, rfl, hown⟩, hB1⟩; have hrd := Rd.of_own hown; clear hown; obtain ⟨hfl, a, cap, rfl, hcap, hcell⟩ := hrd; have HB1 := Lib.hid hB1; clear hB1; have HC := Lib.hid hcell; clear hcell; have HFL := Lib.hid hfl; clear hfl)
  go_loopw [3, 9] (fun ps i wr => ∃ (k : Nat), i = .int .i64 k ∧ k ≤ L.length ∧ wr.ownsRow w1.heap.size 3 1 ps k (heads (L.take k)) ∧ Below w1.heap.size w1 wr) (fun _ i _ => L.length - (intOf i).toNat)
  case atStart => exact ⟨0, rfl, by omega, by simpa [heads] using World.ownsRow_nil _ _ _ _, Below.refl _ _⟩
  case round =>
    obtain ⟨k, rfl, hk, hown, hB⟩ := hrel
    have hbs := hB.size
    by_cases hlt : k < L.length
    · rcases HC.out with h0 | ⟨b, rfl, hb, hcell⟩
      · omega
      have hf := flat_get L k hlt
      have c0 : wr.cell? ⟨b, k * 2, none⟩ = some (.int .i64 (L[k].1 : Int)) := by rw [hB.cell (p := ⟨b, k * 2, none⟩) hb]; exact hcell _ _ hf.1
      have c1 : wr.cell? ⟨b, k * 2 + 1, none⟩ = some (.int .i64 (L[k].2 : Int)) := by rw [hB.cell (p := ⟨b, k * 2 + 1, none⟩) hb]; exact hcell _ _ hf.2
      clear hf hcell
      go_wp2_with (at_builtin; refine wpList_append_own _ rfl _ _ 25 rfl w1.heap.size 3 i0 (.int .i64 0) 1 8 Tryz.underlying25 hi hz0 hz1 hz2 rfl (by decide) _ _ _ rfl ((hown.alloc _).alloc _) ⟨wr.heap.size + 1, 0, none⟩ 1 1 [.int .i64 (L[k].1 : Int)] rfl rfl ?c1 ?c2 ?c3 ?c4 ?c5 ?_)
      case c1 => exact cell_one_at _ _ _ _ (by simp)
      case c2 => intro u hu; simp at hu; subst hu; rfl
      case c3 => unfold maxLen; omega
      case c4 => omega
      case c5 => simp; omega
      intro ps' w2 hown' hgrow _
      have HO := Lib.hid (And.intro hown' hgrow)
      clear hown' hgrow
      go_wp2
      go_roundw
      case rel =>
        refine ⟨k + 1, by go_num, by omega, by rw [heads_take L k hlt]; exact HO.out.1, ?_⟩
        exact ((hB.alloc (by omega) _).alloc (by simp; omega) _).grown HO.out.2 (by simp; omega) (fun j hj => (hown.lt j hj).1)
      case measure => simp [intOf]; omega
    · obtain rfl : k = L.length := by omega
      go_wp2
      go_ret
      refine ⟨⟨_, rfl, ?_⟩, HB1.out.trans (hB.mono HB1.out.size)⟩
      have := hown.base_le HB1.out.size
      rw [List.take_length] at this
      exact this

/-! ### How many rests have an inverse -/
/-- The units behind the first k primes. -/
def unitsAt (L : List (Nat × Nat)) (k : Nat) : Nat := M.phiP (L.take k) * M.prodP (L.drop k)

theorem unitsAt_step {L : List (Nat × Nat)} {lo : Nat} (h : M.FacFrom lo L) {k : Nat} (hk : k < L.length) :
    unitsAt L k / L[k].1 * (L[k].1 - 1) = unitsAt L (k + 1) ∧ unitsAt L (k + 1) ≤ unitsAt L k ∧ 2 ≤ L[k].1 := by
  have hd : L.drop k = L[k] :: L.drop (k + 1) := List.drop_eq_getElem_cons hk
  have hg := h.gt L[k] (List.getElem_mem hk)
  have h2 := hg.2.1.1
  have hphi : M.phiP (L.take (k + 1)) = M.phiP (L.take k) * (L[k].1 ^ (L[k].2 - 1) * (L[k].1 - 1)) := by
    rw [List.take_succ_eq_append_getElem hk]
    have : ∀ l : List (Nat × Nat), ∀ x, M.phiP (l ++ [x]) = M.phiP l * (x.1 ^ (x.2 - 1) * (x.1 - 1)) := by
      intro l x
      induction l with
      | nil => simp [M.phiP]
      | cons y l ih => rw [List.cons_append, M.phiP, ih, M.phiP]; ac_rfl
    exact this _ _
  have hpow : L[k].1 ^ L[k].2 = L[k].1 * L[k].1 ^ (L[k].2 - 1) := by rw [← Nat.pow_succ']; congr 1; omega
  have he : unitsAt L k = L[k].1 * (M.phiP (L.take k) * L[k].1 ^ (L[k].2 - 1) * M.prodP (L.drop (k + 1))) := by
    unfold unitsAt
    rw [hd, M.prodP, hpow]; ac_rfl
  have he1 : unitsAt L (k + 1) = M.phiP (L.take k) * L[k].1 ^ (L[k].2 - 1) * M.prodP (L.drop (k + 1)) * (L[k].1 - 1) := by
    unfold unitsAt
    rw [hphi]; ac_rfl
  refine ⟨?_, ?_, h2⟩
  · rw [he, Nat.mul_div_cancel_left _ (by omega), he1]
  · rw [he, he1, Nat.mul_comm]; exact Nat.mul_le_mul_right _ (by omega)

theorem units_cast (L : List (Nat × Nat)) (k : Nat) (hk : k < L.length) (h2 : 2 ≤ L[k].1) : ((unitsAt L k : Nat) : Int) / ((L[k].1 : Nat) : Int) * ((L[k].1 : Int) - 1) = ((unitsAt L k / L[k].1 * (L[k].1 - 1) : Nat) : Int) := by
  rw [Int.natCast_mul, Int.natCast_ediv, Int.natCast_sub (by omega)]
  rfl

set_option maxRecDepth 100000 in
set_option maxHeartbeats 400000 in
theorem unitsOf_any (n : Int) (L : List (Nat × Nat)) (w : World) (hn : 1 ≤ n) (hn2 : n ≤ 2147483647) (hL : Hid (M.IsFac n.toNat L)) :
    Calls Tryz.prog 37 #[.int .i64 n] w fun x w' => x = .returned (.int .i64 (M.phiP L : Nat)) ∧ Below w.heap.size w w' := by
  have hlen : L.length ≤ 30 := hL.out.1.length_le (by rw [hL.out.2]; omega)
  go_enter Tryz.func37, Tryz.ntmps37
  go_wp2_with (go_at_call 38; refine (primesOf_any n L _ hn hn2 hL).mono ?_; rintro x w1 ⟨⟨vf, rfl, hown⟩, hB1⟩; have hrd := Rd.of_own hown; clear hown; obtain ⟨hfl, a, cap, rfl, hcap, hcell⟩ := hrd; have HB1 := Lib.hid hB1; clear hB1; have HC := Lib.hid hcell; clear hcell; have HFL := Lib.hid hfl; clear hfl)
  go_loop [3, 10] (fun u i => ∃ (k : Nat) (U : Int), i = .int .i64 k ∧ k ≤ L.length ∧ u = .int .i64 U ∧ 1 ≤ U ∧ U ≤ 2147483647 ∧ Hid (U = (unitsAt L k : Nat))) (fun _ i => L.length - (intOf i).toNat)
  case atStart => exact ⟨0, n, rfl, by omega, rfl, by omega, by omega, by show n = _; simp [unitsAt, M.phiP, hL.out.2]; omega⟩
  case round =>
    obtain ⟨k, U, rfl, hk, rfl, hU0, hU1, HU⟩ := hrel
    by_cases hlt : k < L.length
    · rcases HC.out with h0 | ⟨b, rfl, hb, hcell⟩
      · omega
      have c0 : w1.cell? ⟨b, k, none⟩ = some (.int .i64 (L[k].1 : Int)) := hcell _ _ (by simp [heads, hlt])
      clear hcell
      obtain ⟨g1, g2, g3⟩ := unitsAt_step hL.out.1 hlt
      have hpos : 1 ≤ unitsAt L (k + 1) := Nat.mul_pos (by have := (hL.out.1); exact (M.FacFrom.take this (k + 1)).phi_pos) (hL.out.1.drop (k + 1)).pos
      have hc := Lib.hid ((units_cast L k hlt g3).trans (by rw [g1]))
      have hpb : (L[k].1 : Int) ≤ 2147483647 := by
        have h1 := M.dvd_prodP (List.getElem_mem hlt) (hL.out.1.gt _ (List.getElem_mem hlt)).2.2
        have := Nat.le_of_dvd (by rw [hL.out.2]; omega) h1
        rw [hL.out.2] at this; omega
      have hval : U / (L[k].1 : Int) * ((L[k].1 : Int) - 1) = (unitsAt L (k + 1) : Nat) := by rw [HU.out]; exact hc.out
      have hU' := HU.out
      have hq1 : 0 ≤ U / (L[k].1 : Int) ∧ U / (L[k].1 : Int) ≤ U := ⟨Int.ediv_nonneg (by omega) (by omega), Int.ediv_le_self _ (by omega)⟩
      have hb1 : 0 ≤ U / (L[k].1 : Int) * ((L[k].1 : Int) - 1) ∧ U / (L[k].1 : Int) * ((L[k].1 : Int) - 1) ≤ 2147483647 := by omega
      have HV := Lib.hid hval
      clear hval hU' g1 hc
      go_wp2
      go_round
      case rel => exact ⟨k + 1, _, by go_num, by omega, rfl, by rw [HV.out]; omega, hb1.2, HV.out⟩
      case measure => simp [intOf]; omega
    · obtain rfl : k = L.length := by omega
      go_wp2
      go_ret
      exact ⟨ret_i (by rw [HU.out]; simp [unitsAt, M.prodP]), HB1.out⟩

end Go.Proofs.YtgcjdojhfimceaaGreat

namespace Go.Proofs.YtgcjdojhfimceaaGreat
open Go.RowKit

set_option maxRecDepth 100000 in
set_option maxHeartbeats 1000000 in
theorem orderOf_any (a m : Int) (o : Nat) (L L2 : List (Nat × Nat)) (w : World) (ha : 0 ≤ a) (ham : a < m) (hm : m ≤ 2147483647) (hL : Hid (M.IsFac m.toNat L)) (hL2 : Hid (M.IsFac (M.phiP L) L2)) (ho : Hid (M.IsOrd a.toNat o m.toNat)) :
    Calls Tryz.prog 17 #[.int .i64 a, .int .i64 m] w fun x w' => x = .returned (.int .i64 (o : Int)) ∧ Below w.heap.size w w' := by
  have hphi1 := hL.out.1.phi_pos
  have hphi2 : M.phiP L ≤ 2147483647 := by have := hL.out.1.phi_le; rw [hL.out.2] at this; omega
  have hlen : L2.length ≤ 30 := hL2.out.1.length_le (by rw [hL2.out.2]; omega)
  have hst : Hid (M.OAt o (M.phiP L) L2 0 (M.phiP L)) := M.OAt.start ho.out hphi1 (by
    have := hL.out.1.euler (a := a.toNat) (by rw [hL.out.2]; exact M.coprime_of_pow ho.out.pos ho.out.one)
    rw [hL.out.2] at this; exact this)
  go_enter Tryz.func17, Tryz.ntmps17
  go_wp2_with (fail)
  refine (unitsOf_any m L _ (by omega) hm hL).mono ?_
  rintro x w1 ⟨rfl, hB1⟩
  have HB1 := Lib.hid hB1
  clear hB1
  go_wp2_with (fail)
  refine (primesOf_any _ L2 _ (by omega) (by omega) (by rw [Int.toNat_natCast]; exact hL2)).mono ?_
  rintro x w2 ⟨⟨vf, rfl, hown⟩, hB2⟩
  have HB2 := Lib.hid (HB1.out.trans (hB2.mono HB1.out.size))
  have hrd := Rd.of_own hown
  clear hown hB2
  obtain ⟨hfl, ad, cap, rfl, hcap, hcell⟩ := hrd
  have HC := Lib.hid hcell
  clear hcell hfl
  go_wp2_with (fail)
  go_loop [5, 13] (fun u i => ∃ (k e : Nat), i = .int .i64 k ∧ k ≤ L2.length ∧ u = .int .i64 (e : Int) ∧ 1 ≤ e ∧ e ≤ 2147483647 ∧ Hid (M.OAt o (M.phiP L) L2 k e)) (fun _ i => L2.length - (intOf i).toNat)
  case atStart => exact ⟨0, M.phiP L, rfl, by omega, rfl, hphi1, hphi2, hst⟩
  case round =>
    obtain ⟨k, e, rfl, hk, rfl, he0, he1, HO⟩ := hrel
    by_cases hlt : k < L2.length
    · rcases HC.out with h0 | ⟨b, rfl, hb, hcell⟩
      · omega
      have c0 : w2.cell? ⟨b, k, none⟩ = some (.int .i64 (L2[k].1 : Int)) := hcell _ _ (by simp [heads, hlt])
      clear hcell
      have hg := hL2.out.1.gt L2[k] (List.getElem_mem hlt)
      have hq2 := hg.2.1.1
      have hqd : L2[k].1 ∣ M.phiP L := by have := M.dvd_prodP (List.getElem_mem hlt) hg.2.2; rw [hL2.out.2] at this; exact this
      have hqle := Nat.le_of_dvd hphi1 hqd
      have hm1 : Hid (((1 % m.toNat : Nat) : Int) = 1) := by
        have := hL.out.1.phi_le; rw [hL.out.2] at this
        show _ = _; rw [Nat.mod_eq_of_lt (by omega)]; rfl
      obtain ⟨q, hq⟩ : ∃ q, q = L2[k].1 := ⟨_, rfl⟩
      rw [← hq] at c0 hq2 hqle
      have HQ := Lib.hid hq
      clear hq hg hqd
      go_wp2_with (fail)
      go_loop [5] (fun u => ∃ (e : Nat), u = .int .i64 (e : Int) ∧ 1 ≤ e ∧ e ≤ 2147483647 ∧ Hid (M.OAt o (M.phiP L) L2 k e)) (fun u => (intOf u).toNat)
      case atStart => exact ⟨e, rfl, he0, he1, HO.out⟩
      case round =>
        clear HO
        obtain ⟨e, rfl, he0, he1, HO⟩ := hrel
        by_cases h1 : o * q ∣ e
        · have hqe : q ∣ e := Nat.dvd_trans ⟨o, Nat.mul_comm ..⟩ h1
          have HD := Lib.hid (HO.out.div hq2 h1)
          have hlt2 := HD.out.2
          have hpos2 := HD.out.1.pos
          have hp : (M.pw a ((e : Int) / (q : Int)) m == 1) = true := by rw [beq_iff_eq, (M.pw_test ho.out (by omega) hqe).2 h1, hm1.out]
          have ht : (((e : Int) % (q : Int)) == 0) = true := by rw [beq_iff_eq]; exact Int.emod_eq_zero_of_dvd (by exact_mod_cast hqe)
          have hb : 0 ≤ (e : Int) / (q : Int) ∧ (e : Int) / (q : Int) ≤ 2147483647 := by have : (e : Int) / (q : Int) = ((e / q : Nat) : Int) := rfl; omega
          clear h1 hqe
          go_wp2_with (go_at_call 39; refine (raise_any a _ m _ ha ham (by omega) (by omega) hm).mono ?_; rintro x w' ⟨rfl, rfl⟩)
          go_round
          case rel => exact ⟨e / q, rfl, hpos2, by omega, HD.out.1⟩
          case measure => simp [intOf]; show (e / q : Nat) < e; exact hlt2
        · have HN : Hid (M.OAt o (M.phiP L) L2 (k + 1) e) := HO.out.next hlt (by rw [← HQ.out]; exact h1)
          by_cases hqe : q ∣ e
          · have hp : (M.pw a ((e : Int) / (q : Int)) m == 1) = false := by rw [beq_eq_false_iff_ne]; intro hc; exact h1 ((M.pw_test ho.out (by omega) hqe).1 (by rw [hc, hm1.out]))
            have ht : (((e : Int) % (q : Int)) == 0) = true := by rw [beq_iff_eq]; exact Int.emod_eq_zero_of_dvd (by exact_mod_cast hqe)
            have hb : 0 ≤ (e : Int) / (q : Int) ∧ (e : Int) / (q : Int) ≤ 2147483647 := ⟨Int.natCast_nonneg (e / q), by have := Nat.div_le_self e q; show ((e / q : Nat) : Int) ≤ _; omega⟩
            clear h1 hqe
            go_wp2_with (go_at_call 39; refine (raise_any a _ m _ ha ham (by omega) (by omega) hm).mono ?_; rintro x w' ⟨rfl, rfl⟩)
            go_round
            case rel => exact ⟨k + 1, e, by go_num, by omega, rfl, he0, he1, HN.out⟩
            case measure => simp [intOf]; omega
          · have ht : (((e : Int) % (q : Int)) == 0) = false := by rw [beq_eq_false_iff_ne]; intro hc; exact hqe (by exact_mod_cast Int.dvd_of_emod_eq_zero hc)
            clear h1 hqe
            go_wp2_with (fail)
            go_round
            case rel => exact ⟨k + 1, e, by go_num, by omega, rfl, he0, he1, HN.out⟩
            case measure => simp [intOf]; omega
    · obtain rfl : k = L2.length := by omega
      go_wp2
      go_ret
      exact ⟨ret_i (by rw [HO.out.finish hL2.out]), HB2.out⟩

end Go.Proofs.YtgcjdojhfimceaaGreat

namespace Go.Proofs.YtgcjdojhfimceaaGreat
open Go.RowKit

theorem fac_of_prime {n : Nat} {L : List (Nat × Nat)} (hp : M.Pr n) (hL : M.IsFac n L) : L = [(n, 1)] :=
  hL.unique ⟨⟨by have := hp.1; show 1 < n; omega, hp, Nat.le_refl _, trivial⟩, by simp [M.prodP]⟩

theorem isPrime_at (n : Int) (p : Int) (w : World) (h2 : 2 ≤ n) (hm : n ≤ 2147483647) (t : Bool) (ht : (p == n) = t) (hL : Hid (∃ L e t, M.IsFac n.toNat L ∧ L = (p.toNat, e) :: t)) (hp : 0 ≤ p) :
    Calls Tryz.prog 40 #[.int .i64 n] w fun x w' => x = .returned (.bool t) ∧ Below w.heap.size w w' := by
  obtain ⟨L, e, tl, hL1, hL2⟩ := hL.out
  have HL := Lib.hid hL1
  have hlen : L.length = tl.length + 1 := by rw [hL2]; rfl
  have hfl : (flat L)[0]? = some (.int .i64 p) := by rw [hL2]; simp [flat]; omega
  have HFL := Lib.hid (And.intro hfl hlen)
  clear hL1 hL2 hL hfl hlen
  have HT := Lib.hid ht
  clear ht
  go_enter Tryz.func40, Tryz.ntmps40
  go_wp2_with (go_at_call 21; refine (isNumber_yes _ _ (by omega) (by omega)).mono ?_; rintro e w' ⟨rfl, rfl⟩)
  refine (factors_any n L _ (by omega) (by omega) HL).mono ?_
  rintro x w1 ⟨⟨vf, rfl, hown⟩, hB1⟩
  have hrd := Rd.of_own hown
  clear hown
  obtain ⟨hfl, a, cap, rfl, hcap, hcell⟩ := hrd
  have HB1 := Lib.hid hB1
  clear hB1
  rcases hcell with h0 | ⟨b, rfl, hb, hcell⟩
  · have := HFL.out.2; omega
  have c0 := hcell _ _ HFL.out.1
  have hl1 : 0 < L.length := by have := HFL.out.2; omega
  clear hcell hfl
  go_wp2_with (fail)
  go_ret
  exact ⟨ret_b HT.out, HB1.out⟩

theorem isPrime_yes (n : Int) (w : World) (h : Hid (PrI n)) : Calls Tryz.prog 40 #[.int .i64 n] w fun x w' => x = .returned (.bool true) ∧ Below w.heap.size w w' := by
  obtain ⟨h2, hm, hp⟩ := h.out
  obtain ⟨L, hL⟩ := M.exists_fac n.toNat (by omega)
  exact isPrime_at n n w h2 hm true (by simp) ⟨L, 1, [], hL, fac_of_prime hp hL⟩ (by omega)

theorem isPrime_no (n : Int) (w : World) (h : Hid (¬ PrI n)) : Calls Tryz.prog 40 #[.int .i64 n] w fun x w' => x = .returned (.bool false) ∧ Below w.heap.size w w' := by
  by_cases hr : n ≤ 1
  · go_enter Tryz.func40, Tryz.ntmps40
    have hd : decide (1 < n) = false := by simpa using hr
    go_wp2_with (fail)
    go_ret
    exact ⟨rfl, Below.refl _ _⟩
  by_cases hm : n ≤ 2147483647
  · obtain ⟨L, hL⟩ := M.exists_fac n.toNat (by omega)
    match L, hL with
    | [], hL => exfalso; have := hL.2; simp [M.prodP] at this; omega
    | x :: L, hL =>
      refine isPrime_at n (x.1 : Int) w (by omega) hm false ?_ ⟨x :: L, x.2, L, hL, by simp⟩ (by omega)
      rw [beq_eq_false_iff_ne]
      intro e
      exact h.out ⟨by omega, hm, by rw [← e, Int.toNat_natCast]; exact hL.1.2.1⟩
  · have h1 : 1 < n := by omega
    have hm' : n < 1 ∨ 2147483647 < n := by omega
    clear hr h
    go_enter Tryz.func40, Tryz.ntmps40
    go_wp2_with (go_at_call 21; refine (isNumber_no _ _ hm').mono ?_; rintro e w' ⟨rfl, rfl⟩)
    go_ret
    exact ⟨rfl, Below.refl _ _⟩

/-! ### Factor -/
theorem Factor_yes (n : Int) (L : List (Nat × Nat)) (w : World) (hn : 1 ≤ n) (hn2 : n ≤ 2147483647) (hL : Hid (M.IsFac n.toNat L)) :
    Calls Tryz.prog 48 #[.int .i64 n] w fun x w' => (∃ v, x = .returned (.tuple #[v, .int .i64 0]) ∧ w'.ownsRow w.heap.size 50 2 v L.length (flat L)) ∧ Below w.heap.size w w' := by
  go_enter Tryz.func48, Tryz.ntmps48
  go_wp2_with (first
    | (go_at_call 21; refine (isNumber_yes _ _ (by omega) (by omega)).mono ?_; rintro e w' ⟨rfl, rfl⟩)
    | (go_at_call 22; refine (factors_any n L _ (by omega) (by omega) hL).mono ?_; rintro x w1 ⟨⟨vf, rfl, hown⟩, hB1⟩; have HB := Lib.hid (And.intro hown hB1); clear hown hB1))
  go_ret2
  exact ⟨⟨_, rfl, HB.out.1⟩, HB.out.2⟩

theorem Factor_no (n : Int) (w : World) (hn : n < 1 ∨ 2147483647 < n) :
    Calls Tryz.prog 48 #[.int .i64 n] w fun x w' => x = .returned (.tuple #[.slice none 0 0, .int .i64 2]) ∧ w = w' := by
  go_enter Tryz.func48, Tryz.ntmps48
  go_wp2_with (go_at_call 21; refine (isNumber_no _ _ hn).mono ?_; rintro e w' ⟨rfl, rfl⟩)
  go_ret2
  exact ⟨rfl, rfl⟩

/-! ### The reference's Factor -/
theorem least_at {L : List (Nat × Nat)} {lo k : Nat} (h : M.FacFrom lo L) (hk : k < L.length) : Least (M.prodP (L.drop k) : Int) (L[k].1 : Int) := by
  have hd : L.drop k = L[k] :: L.drop (k + 1) := List.drop_eq_getElem_cons hk
  have hf := h.drop k
  rw [hd] at hf ⊢
  refine ⟨by have := hf.2.1.1; omega, by exact_mod_cast M.dvd_prodP (List.mem_cons_self ..) hf.2.2.1, fun j hj hjd => ?_⟩
  obtain ⟨J, rfl⟩ := Int.eq_ofNat_of_zero_le (show 0 ≤ j by omega)
  have := hf.head_le (k := J) (by omega) (by exact_mod_cast hjd)
  omega

theorem prod_at {L : List (Nat × Nat)} {lo k : Nat} (h : M.FacFrom lo L) (hk : k < L.length) :
    M.prodP (L.drop k) = L[k].1 ^ L[k].2 * M.prodP (L.drop (k + 1)) ∧ ¬ L[k].1 ∣ M.prodP (L.drop (k + 1)) ∧ 1 ≤ M.prodP (L.drop (k + 1)) ∧ 2 ≤ L[k].1 ∧ 2 ≤ M.prodP (L.drop k) := by
  have hd : L.drop k = L[k] :: L.drop (k + 1) := List.drop_eq_getElem_cons hk
  have hf := h.drop k
  rw [hd] at hf
  refine ⟨by rw [hd]; rfl, hf.2.2.2.not_dvd hf.2.1, hf.2.2.2.pos, hf.2.1.1, ?_⟩
  have h1 := M.dvd_prodP (List.mem_cons_self (a := L[k]) (l := L.drop (k + 1))) hf.2.2.1
  have := Nat.le_of_dvd hf.pos h1
  rw [hd]
  have := hf.2.1.1
  omega

theorem flat_take (L : List (Nat × Nat)) (k : Nat) (h : k < L.length) : flat (L.take (k + 1)) = flat (L.take k) ++ [.int .i64 (L[k].1 : Int), .int .i64 (L[k].2 : Int)] := by
  rw [List.take_succ_eq_append_getElem h, flat_append]; simp [flat]

end Go.Proofs.YtgcjdojhfimceaaGreat
namespace Go.Proofs.YtgcjdojhfimceaaGreat
open Go.RowKit

theorem quietw {P : Program} {f : FuncId} {args : Array Value} {w : World} {v : Value} (h : Calls P f args w fun e w' => e = .returned v ∧ w = w') : Calls P f args w fun e w' => e = .returned v ∧ w' = w :=
  h.mono fun _ _ ⟨he, hw⟩ => ⟨he, hw.symm⟩

/-- A call that leaves the world alone, inside a region that draws, behind other draws. -/
theorem still_more {P : Program} {f : FuncId} {args : Array Value} {v : Value} {w0 : World} (a n : Nat) (c : ∀ W : World, Calls P f args W fun e w' => e = .returned v ∧ W = w') :
    Calls P f args (w0.drewN (a + n)) fun e w' => e = .returned v ∧ ∃ m, w' = w0.drewN (a + m) :=
  (c _).mono fun _ _ ⟨he, hw⟩ => ⟨he, n, hw.symm⟩

end Go.Proofs.YtgcjdojhfimceaaGreat
namespace Go.Proofs.YtgcjdojhfimceaaGreat
open Go.RowKit

def IsRest (a m : Int) : Prop := 0 ≤ a ∧ a < m ∧ m ≤ 2147483647

set_option maxHeartbeats 400000 in
theorem Inv_ok (a m i : Int) (w : World) (ha : 0 ≤ a) (ham : a < m) (hm : m ≤ 2147483647) (hi0 : 0 ≤ i) (him : i < m) (hi : Hid (a * i % m = 1 % m)) :
    Calls Tryz.prog 49 #[.int .i64 a, .int .i64 m] w fun x w' => x = .returned (.tuple #[.int .i64 i, .int .i64 0]) ∧ ∃ n, w' = w.drewN n := by
  have hg1 : (gcdI a m != 1) = false := by simp [gcdI, M.gcd_of_inv ha ham hi0 hi.out]
  go_enter Tryz.func49, Tryz.ntmps49
  go_wp2_with (first
    | (go_at_call 15; refine (isRest_yes _ _ _ (by omega) (by omega) (by omega)).mono ?_; rintro e w' ⟨rfl, rfl⟩)
    | (go_at_call 16; refine (gcd_any _ _ _ (by omega) (by omega) (by omega) (by omega)).mono ?_; rintro e w' ⟨rfl, n, rfl⟩)
    | (go_at_call 64; refine (invert_any _ _ i _ (by omega) (by omega) (by omega) hi0 him hi).mono ?_; rintro e w' ⟨rfl, rfl⟩))
  go_ret2
  exact ⟨rfl, _, rfl⟩

set_option maxHeartbeats 400000 in
theorem Inv_none (a m : Int) (w : World) (ha : 0 ≤ a) (ham : a < m) (hm : m ≤ 2147483647) (hg1 : (gcdI a m != 1) = true) :
    Calls Tryz.prog 49 #[.int .i64 a, .int .i64 m] w fun x w' => x = .returned (.tuple #[.int .i64 0, .int .i64 6]) ∧ ∃ n, w' = w.drewN n := by
  go_enter Tryz.func49, Tryz.ntmps49
  go_wp2_with (first
    | (go_at_call 15; refine (isRest_yes _ _ _ (by omega) (by omega) (by omega)).mono ?_; rintro e w' ⟨rfl, rfl⟩)
    | (go_at_call 16; refine (gcd_any _ _ _ (by omega) (by omega) (by omega) (by omega)).mono ?_; rintro e w' ⟨rfl, n, rfl⟩))
  go_ret2
  exact ⟨rfl, _, rfl⟩

set_option maxHeartbeats 400000 in
theorem Inv_arg (a m : Int) (w : World) (h : Hid (¬ IsRest a m)) :
    Calls Tryz.prog 49 #[.int .i64 a, .int .i64 m] w fun x w' => x = .returned (.tuple #[.int .i64 0, .int .i64 2]) ∧ w = w' := by
  go_enter Tryz.func49, Tryz.ntmps49
  go_wp2_with (first
    | (go_at_call 15; refine (isRest_no _ _ _ h.out).mono ?_; rintro e w' ⟨rfl, rfl⟩))
  go_ret2
  exact ⟨rfl, rfl⟩

set_option maxHeartbeats 400000 in
theorem Ord_ok (a m : Int) (o : Nat) (L L2 : List (Nat × Nat)) (w : World) (ha : 0 ≤ a) (ham : a < m) (hm : m ≤ 2147483647) (hL : Hid (M.IsFac m.toNat L)) (hL2 : Hid (M.IsFac (M.phiP L) L2)) (ho : Hid (M.IsOrd a.toNat o m.toNat)) :
    Calls Tryz.prog 7 #[.int .i64 a, .int .i64 m] w fun x w' => x = .returned (.tuple #[.int .i64 (o : Int), .int .i64 0]) ∧ Below w.heap.size w w' := by
  have hg1 : (gcdI a m != 1) = false := by
    have := M.coprime_of_pow ho.out.pos ho.out.one
    simp [gcdI]; exact_mod_cast this
  go_enter Tryz.func7, Tryz.ntmps7
  go_wp2_with (first
    | (go_at_call 15; refine (isRest_yes _ _ _ (by omega) (by omega) (by omega)).mono ?_; rintro e w' ⟨rfl, rfl⟩)
    | (go_at_call 16; refine (gcd_any _ _ _ (by omega) (by omega) (by omega) (by omega)).mono ?_; rintro e w' ⟨rfl, n, rfl⟩)
    | (go_at_call 17; refine (orderOf_any _ _ o L L2 _ (by omega) (by omega) (by omega) hL hL2 ho).mono ?_; rintro e w1 ⟨rfl, hB⟩; have HB := Lib.hid hB; clear hB))
  go_ret2
  exact ⟨rfl, (below_drewN (Below.refl w.heap.size w) _).trans HB.out⟩

set_option maxHeartbeats 400000 in
theorem Ord_none (a m : Int) (w : World) (ha : 0 ≤ a) (ham : a < m) (hm : m ≤ 2147483647) (hg1 : (gcdI a m != 1) = true) :
    Calls Tryz.prog 7 #[.int .i64 a, .int .i64 m] w fun x w' => x = .returned (.tuple #[.int .i64 0, .int .i64 6]) ∧ ∃ n, w' = w.drewN n := by
  go_enter Tryz.func7, Tryz.ntmps7
  go_wp2_with (first
    | (go_at_call 15; refine (isRest_yes _ _ _ (by omega) (by omega) (by omega)).mono ?_; rintro e w' ⟨rfl, rfl⟩)
    | (go_at_call 16; refine (gcd_any _ _ _ (by omega) (by omega) (by omega) (by omega)).mono ?_; rintro e w' ⟨rfl, n, rfl⟩))
  go_ret2
  exact ⟨rfl, _, rfl⟩

set_option maxHeartbeats 400000 in
theorem Ord_arg (a m : Int) (w : World) (h : Hid (¬ IsRest a m)) :
    Calls Tryz.prog 7 #[.int .i64 a, .int .i64 m] w fun x w' => x = .returned (.tuple #[.int .i64 0, .int .i64 2]) ∧ w = w' := by
  go_enter Tryz.func7, Tryz.ntmps7
  go_wp2_with (first
    | (go_at_call 15; refine (isRest_no _ _ _ h.out).mono ?_; rintro e w' ⟨rfl, rfl⟩))
  go_ret2
  exact ⟨rfl, rfl⟩

end Go.Proofs.YtgcjdojhfimceaaGreat

namespace Go.Proofs.YtgcjdojhfimceaaGreat
open Go.RowKit

theorem isSquare_is (a p : Int) (t : Bool) (w : World) (ha : 0 ≤ a) (hap : a < p) (hp : p ≤ 2147483647) (ht : (M.pw a ((p - 1) / 2) p == 1) = t) :
    Calls Tryz.prog 41 #[.int .i64 a, .int .i64 p] w fun x w' => x = .returned (.bool t) ∧ w = w' := by
  have HT := Lib.hid ht
  clear ht
  go_enter Tryz.func41, Tryz.ntmps41
  go_wp2_with (go_at_call 39; refine (raise_any _ _ _ _ (by omega) (by omega) (by omega) (by omega) (by omega)).mono ?_; rintro e w' ⟨rfl, rfl⟩)
  go_ret
  exact ⟨ret_b HT.out, rfl⟩

set_option maxHeartbeats 400000 in
theorem leastOther_is (p : Int) (c : Nat) (w : World) (hp : 3 ≤ p) (hp2 : p ≤ 2147483647) (hc : 2 ≤ c) (hcp : c < p) (h : Hid (M.pw c ((p - 1) / 2) p ≠ 1 ∧ ∀ d : Int, 2 ≤ d → d < c → M.pw d ((p - 1) / 2) p = 1)) :
    Calls Tryz.prog 59 #[.int .i64 p] w fun x w' => x = .returned (.int .i64 c) ∧ w = w' := by
  go_enter Tryz.func59, Tryz.ntmps59
  go_wp2
  go_loop [3] (fun x => ∃ d : Int, x = .int .i64 d ∧ 2 ≤ d ∧ d ≤ c) (fun x => ((c : Int) - intOf x).toNat)
  case atStart => exact ⟨2, rfl, by omega, by omega⟩
  case round =>
    obtain ⟨d, rfl, hd2, hdc⟩ := hrel
    by_cases hlt : d < c
    · have ht : (M.pw d ((p - 1) / 2) p == 1) = true := by rw [beq_iff_eq]; exact h.out.2 d hd2 hlt
      have HT := Lib.hid ht
      clear ht
      go_wp2_with (go_at_call 41; refine (isSquare_is _ _ true _ (by omega) (by omega) (by omega) HT.out).mono ?_; rintro e w' ⟨rfl, rfl⟩)
      go_round
      case rel => exact ⟨d + 1, rfl, by omega, by omega⟩
      case measure => simp [intOf]; omega
    · obtain rfl : d = c := by omega
      have ht : (M.pw c ((p - 1) / 2) p == 1) = false := by rw [beq_eq_false_iff_ne]; exact h.out.1
      have HT := Lib.hid ht
      clear ht
      go_wp2_with (go_at_call 41; refine (isSquare_is _ _ false _ (by omega) (by omega) (by omega) HT.out).mono ?_; rintro e w' ⟨rfl, rfl⟩)
      go_ret
      exact ⟨rfl, rfl⟩

theorem mulmod_cast (x y p : Nat) : ((x : Int) * (y : Int)) % (p : Int) = ((x * y % p : Nat) : Int) := by simp

set_option maxHeartbeats 400000 in
theorem squarings_is (x p h : Nat) (w : World) (hp : 2 ≤ p) (hp2 : p ≤ 2147483647) (hx : x < p) (hh2 : h ≤ 64) (hh : Hid (M.IsSq x p h)) :
    Calls Tryz.prog 60 #[.int .i64 x, .int .i64 p] w fun r w' => r = .returned (.int .i64 h) ∧ w = w' := by
  go_enter Tryz.func60, Tryz.ntmps60
  go_wp2
  go_loop [0, 5] (fun v c => ∃ k y : Nat, c = .int .i64 k ∧ v = .int .i64 y ∧ k ≤ h ∧ y < p ∧ Hid (y = x ^ 2 ^ k % p)) (fun _ c => h - (intOf c).toNat)
  case atStart => exact ⟨0, x, rfl, rfl, by omega, hx, by show _ = _; rw [Nat.pow_zero, Nat.pow_one, Nat.mod_eq_of_lt hx]⟩
  case round =>
    obtain ⟨k, y, rfl, rfl, hk, hy, HY⟩ := hrel
    by_cases hlt : k < h
    · have hne : ((y : Int) != 1) = true := by
        have := hh.out.least k hlt
        rw [← HY.out] at this
        simp; omega
      have hne2 : ((y : Int) == 1) = false := by simpa using hne
      have hb := M.mul_bd y y p (by omega) (by omega) (by omega) (by omega) (by omega)
      have hlt3 := Nat.mod_lt (y * y) (show 0 < p by omega)
      have HM := Lib.hid (mulmod_cast y y p)
      go_wp2
      go_round
      case rel =>
        refine ⟨k + 1, y * y % p, by go_num, by rw [HM.out], by omega, hlt3, ?_⟩
        show _ = _
        rw [HY.out, ← Nat.mul_mod, ← Nat.pow_add, ← Nat.mul_two, ← Nat.pow_succ]
      case measure => simp [intOf]; omega
    · obtain rfl : k = h := by omega
      have h1 : y = 1 := by rw [HY.out]; exact hh.out.one
      have hne : ((y : Int) != 1) = false := by simp [h1]
      have hne2 : ((y : Int) == 1) = true := by simp [h1]
      clear h1
      go_wp2
      go_ret
      exact ⟨rfl, rfl⟩

theorem pw_nat (a e p : Nat) : M.pw (a : Int) (e : Int) (p : Int) = ((a ^ e % p : Nat) : Int) := by simp [M.pw]

theorem raise_isP (a e m S : Nat) (w : World) (ham : a < m) (he2 : e ≤ 9223372036854775807) (hm : m ≤ 2147483647) (h : Hid (a ^ e % m = S)) :
    Calls Tryz.prog 39 #[.int .i64 a, .int .i64 e, .int .i64 m] w fun x w' => x = .returned (.int .i64 S) ∧ w = w' := by
  refine (raise_any a e m w (by omega) (by omega) (by omega) (by omega) (by omega)).mono fun x w' ⟨hx, hw⟩ => ⟨?_, hw⟩
  rw [hx, pw_nat, h.out]

def RootPost (a p : Int) (w : World) (e : Ending) (w' : World) : Prop := ∃ x : Int, e = .returned (.int .i64 x) ∧ 0 ≤ x ∧ x < p ∧ x * x % p = a ∧ w = w'

set_option maxRecDepth 100000 in
set_option maxHeartbeats 1000000 in
theorem rootOf_isP (a p : Nat) (w : World) (hp : Hid (M.Pr p)) (h3 : 3 ≤ p) (hp2 : p ≤ 2147483647) (ha1 : 1 ≤ a) (hap : a < p) (ha : Hid (a ^ ((p - 1) / 2) % p = 1)) :
    Calls Tryz.prog 42 #[.int .i64 a, .int .i64 p] w (RootPost a p w) := by
  obtain ⟨tw, odd, ho, hodd, hodd1⟩ := M.strip 2 (p - 1) (by omega) (by omega)
  obtain ⟨c, hc2, hcp, hc, hcl⟩ := M.exists_least_other hp.out h3
  have hodd' : odd % 2 = 1 := by
    have := fun e => hodd (Nat.dvd_of_mod_eq_zero e)
    omega
  have ho' : p - 1 = odd * 2 ^ tw := by rw [ho, Nat.mul_comm]
  have hT := Lib.hid (M.Ton.start hp.out h3 ha1 hap ha.out (by omega) hcp hc ho' hodd')
  have htw : tw ≤ 30 := M.lt_of_two_pow (e := tw) (n := p - 1) (by rw [ho]; exact Nat.le_mul_of_pos_right _ hodd1) (by omega)
  have hoddp : odd ≤ p - 1 := by rw [ho]; exact Nat.le_mul_of_pos_left _ (Nat.pow_pos (by omega))
  have HC : Hid (M.pw c (((p : Int) - 1) / 2) p ≠ 1 ∧ ∀ d : Int, 2 ≤ d → d < c → M.pw d (((p : Int) - 1) / 2) p = 1) := by
    have e2 : ((p : Int) - 1) / 2 = (((p - 1) / 2 : Nat) : Int) := by omega
    refine ⟨?_, fun d hd hdc => ?_⟩
    · rw [e2, pw_nat]; exact_mod_cast hc
    · obtain ⟨D, rfl⟩ := Int.eq_ofNat_of_zero_le (show 0 ≤ d by omega)
      rw [e2, pw_nat]; exact_mod_cast hcl D (by omega) (by omega)
  have HO := Lib.hid (And.intro ho' hodd')
  clear ho ho' hodd hc hcl hodd'
  go_enter Tryz.func42, Tryz.ntmps42
  go_wp2
  go_loop [5, 6] (fun x y => ∃ k o : Nat, y = .int .i64 k ∧ x = .int .i64 o ∧ k ≤ tw ∧ 1 ≤ o ∧ o ≤ 2147483647 ∧ Hid (o = odd * 2 ^ (tw - k))) (fun _ y => tw - (intOf y).toNat)
  case atStart => exact ⟨0, p - 1, rfl, by congr 1; omega, by omega, by omega, by omega, HO.out.1⟩
  case round =>
    obtain ⟨k, o, rfl, rfl, hk, ho1, ho2, HOK⟩ := hrel
    by_cases hlt : k < tw
    · have hdiv : o = 2 * (odd * 2 ^ (tw - (k + 1))) := by
        rw [HOK.out, show tw - k = (tw - (k + 1)) + 1 by omega, Nat.pow_succ]; ac_rfl
      have ht : ((o : Int) % 2 == 0) = true := by rw [beq_iff_eq]; omega
      have HD := Lib.hid hdiv
      have hge : 2 ≤ o := by omega
      clear hdiv
      go_wp2
      go_round
      case rel => exact ⟨k + 1, o / 2, by go_num, rfl, by omega, by omega, by omega, by have := HD.out; show _ = _; omega⟩
      case measure => simp [intOf]; omega
    · obtain rfl : k = tw := by omega
      have hoo : o = odd := by rw [HOK.out]; simp
      have ht : ((o : Int) % 2 == 0) = false := by rw [beq_eq_false_iff_ne]; have := HO.out.2; omega
      have HOO := Lib.hid hoo
      clear hoo
      go_wp2_with (fail)
      refine (leastOther_is p c _ (by omega) (by omega) hc2 (by omega) HC).mono ?_
      rintro e w' ⟨rfl, rfl⟩
      go_wp2_with (go_at_call 39; refine (raise_any _ _ _ _ (by omega) (by omega) (by omega) (by omega) (by omega)).mono ?_; rintro e w' ⟨rfl, rfl⟩)
      go_loop [6, 7, 8, 9] (fun t u r x => ∃ tw' root turn ex : Nat, t = .int .i64 tw' ∧ u = .int .i64 turn ∧ r = .int .i64 root ∧ x = .int .i64 ex ∧ tw' ≤ 30 ∧ Hid (M.Ton a p tw' root turn ex)) (fun t _ _ _ => (intOf t).toNat)
      case atStart => exact ⟨k, _, _, _, rfl, congrArg _ (pw_nat c o p), congrArg _ (by rw [show ((o : Int) + 1) / 2 = (((o + 1) / 2 : Nat) : Int) by omega]; exact pw_nat a _ p), congrArg _ (pw_nat a o p), by omega, by have := hT.out; rw [← HOO.out] at this; exact this⟩
      case round =>
        obtain ⟨t, root, turn, ex, rfl, rfl, rfl, rfl, htl, HT⟩ := hrel
        have b1 := HT.out.root_lt
        have b2 := HT.out.turn_lt
        have b3 := HT.out.ex_lt
        by_cases hex : ex = 1
        · have hfin := Lib.hid (show root * root % p = a by have := HT.out; rw [hex] at this; exact this.finish hap)
          have hne : ((ex : Int) != 1) = false := by simp [hex]
          have hne2 : ((ex : Int) == 1) = true := by simp [hex]
          clear hex
          go_wp2
          go_ret
          exact ⟨root, rfl, by omega, by omega, by rw [mulmod_cast]; exact congrArg _ hfin.out, rfl⟩
        · obtain ⟨h, hsq, hlt'⟩ := HT.out.tw_lt
          have HS := Lib.hid (HT.out.step hp.out hex hsq)
          have HQ := Lib.hid hsq
          have hh1 := HS.out.1
          have hne : ((ex : Int) != 1) = true := by simp; omega
          have hne2 : ((ex : Int) == 1) = false := by simp; omega
          clear hex hsq
          go_wp2_with (go_at_call 60; refine (squarings_is ex p h _ (by omega) (by omega) (by omega) (by omega) HQ).mono ?_; rintro e w' ⟨rfl, rfl⟩)
          have hsh : wrap64 ((2 : Int) ^ (t - h - 1)) = ((2 ^ (t - h - 1) : Nat) : Int) := by
            have h1 : 2 ^ (t - h - 1) ≤ 2 ^ 30 := Nat.pow_le_pow_right (by omega) (by omega)
            rw [show ((2 : Int) ^ (t - h - 1)) = ((2 ^ (t - h - 1) : Nat) : Int) by simp]
            generalize 2 ^ (t - h - 1) = V at h1
            exact IntWalk.wrap64_in _ ⟨by omega, by omega⟩
          rw [hsh]
          clear hsh
          have hle : 2 ^ (t - h - 1) ≤ 1073741824 := Nat.pow_le_pow_right (n := 2) (by omega) (show t - h - 1 ≤ 30 by omega)
          obtain ⟨S, hS⟩ : ∃ S, turn ^ 2 ^ (t - h - 1) % p = S := ⟨_, rfl⟩
          have hSl : S < p := by rw [← hS]; exact Nat.mod_lt _ (by omega)
          have HS2 := Lib.hid hS
          rw [hS] at HS
          clear hS
          refine (raise_isP turn (2 ^ (t - h - 1)) p S _ (by omega) (by omega) (by omega) HS2).mono ?_
          rintro e w' ⟨rfl, rfl⟩
          clear hle
          have m1 := M.mul_bd root S p (by omega) (by omega) (by omega) (by omega) (by omega)
          have m2 := M.mul_bd S S p (by omega) (by omega) (by omega) (by omega) (by omega)
          have m4 := emod_bd ((S : Int) * (S : Int)) p (by omega)
          have m3 := M.mul_bd ex ((S : Int) * (S : Int) % p) p (by omega) (by omega) m4.1 m4.2 (by omega)
          go_wp2
          go_round
          case rel =>
            exact ⟨h, root * S % p, S * S % p, ex * (S * S % p) % p, rfl, congrArg _ (mulmod_cast S S p), congrArg _ (mulmod_cast root S p), congrArg _ (by rw [mulmod_cast S S p]; exact mulmod_cast ex _ p), by omega, HS.out.2.2⟩
          case measure => simp [intOf]; omega

/-! ### Root -/
def RootOk (a p : Int) (w : World) (e : Ending) (w' : World) : Prop := ∃ x : Int, e = .returned (.tuple #[.int .i64 x, .int .i64 0]) ∧ 0 ≤ x ∧ x < p ∧ x * x % p = a ∧ (x = 0 ∨ x ≤ p - x) ∧ Below w.heap.size w w'

set_option maxHeartbeats 400000 in
theorem Root_arg (a p : Int) (w : World) (h : Hid (¬ (0 ≤ a ∧ a < p ∧ PrI p))) :
    Calls Tryz.prog 20 #[.int .i64 a, .int .i64 p] w fun x w' => x = .returned (.tuple #[.int .i64 0, .int .i64 2]) ∧ Below w.heap.size w w' := by
  by_cases hr : 0 ≤ a ∧ a < p ∧ p ≤ 2147483647
  · have hp : Hid (¬ PrI p) := fun hp => h.out ⟨hr.1, hr.2.1, hp⟩
    obtain ⟨h1, h2, h3⟩ := hr
    go_enter Tryz.func20, Tryz.ntmps20
    go_wp2_with (first
      | (go_at_call 15; refine (isRest_yes _ _ _ (by omega) (by omega) (by omega)).mono ?_; rintro e w' ⟨rfl, rfl⟩)
      | (go_at_call 40; refine (isPrime_no _ _ hp).mono ?_; rintro e w1 ⟨rfl, hB⟩; have HB := Lib.hid hB; clear hB))
    go_ret2
    exact ⟨rfl, HB.out⟩
  · go_enter Tryz.func20, Tryz.ntmps20
    go_wp2_with (first
      | (go_at_call 15; refine (isRest_no _ _ _ hr).mono ?_; rintro e w' ⟨rfl, rfl⟩))
    go_ret2
    exact ⟨rfl, Below.refl _ _⟩

set_option maxHeartbeats 400000 in
theorem Root_none (a p : Int) (w : World) (ha : 1 ≤ a) (hap : a < p) (hp3 : 3 ≤ p) (hp : Hid (PrI p)) (hn : (M.pw a ((p - 1) / 2) p == 1) = false) :
    Calls Tryz.prog 20 #[.int .i64 a, .int .i64 p] w fun x w' => x = .returned (.tuple #[.int .i64 0, .int .i64 6]) ∧ Below w.heap.size w w' := by
  have hm := hp.out.2.1
  have hz1 : ((a : Int) == 0) = false := by simp; omega
  have hz2 : ((p : Int) == 2) = false := by simp; omega
  have HN := Lib.hid hn
  clear hn
  go_enter Tryz.func20, Tryz.ntmps20
  go_wp2_with (first
    | (go_at_call 15; refine (isRest_yes _ _ _ (by omega) (by omega) (by omega)).mono ?_; rintro e w' ⟨rfl, rfl⟩)
    | (go_at_call 40; refine (isPrime_yes _ _ hp).mono ?_; rintro e w1 ⟨rfl, hB⟩; have HB := Lib.hid hB; clear hB)
    | (go_at_call 41; refine (isSquare_is _ _ false _ (by omega) (by omega) (by omega) HN.out).mono ?_; rintro e w' ⟨rfl, rfl⟩))
  go_ret2
  exact ⟨rfl, HB.out⟩

set_option maxHeartbeats 400000 in
theorem Root_easy (a p : Int) (w : World) (ha : 0 ≤ a) (hap : a < p) (hp : Hid (PrI p)) (he : a = 0 ∨ p = 2) :
    Calls Tryz.prog 20 #[.int .i64 a, .int .i64 p] w (RootOk a p w) := by
  have hm := hp.out.2.1
  by_cases h0 : a = 0
  · subst h0
    clear he
    go_enter Tryz.func20, Tryz.ntmps20
    go_wp2_with (first
      | (go_at_call 15; refine (isRest_yes _ _ _ (by omega) (by omega) (by omega)).mono ?_; rintro e w' ⟨rfl, rfl⟩)
      | (go_at_call 40; refine (isPrime_yes _ _ hp).mono ?_; rintro e w1 ⟨rfl, hB⟩; have HB := Lib.hid hB; clear hB))
    go_ret2
    exact ⟨0, rfl, by omega, by omega, by simp, .inl rfl, HB.out⟩
  · obtain rfl : p = 2 := by omega
    obtain rfl : a = 1 := by omega
    go_enter Tryz.func20, Tryz.ntmps20
    go_wp2_with (first
      | (go_at_call 15; refine (isRest_yes _ _ _ (by omega) (by omega) (by omega)).mono ?_; rintro e w' ⟨rfl, rfl⟩)
      | (go_at_call 40; refine (isPrime_yes _ _ hp).mono ?_; rintro e w1 ⟨rfl, hB⟩; have HB := Lib.hid hB; clear hB))
    go_ret2
    exact ⟨1, rfl, by omega, by omega, by decide, .inr (by omega), HB.out⟩

set_option maxHeartbeats 400000 in
theorem Root_ok (a p : Int) (w : World) (ha : 1 ≤ a) (hap : a < p) (hp3 : 3 ≤ p) (hp : Hid (PrI p)) (hn : (M.pw a ((p - 1) / 2) p == 1) = true) :
    Calls Tryz.prog 20 #[.int .i64 a, .int .i64 p] w (RootOk a p w) := by
  have hm := hp.out.2.1
  have hz1 : ((a : Int) == 0) = false := by simp; omega
  have hz2 : ((p : Int) == 2) = false := by simp; omega
  obtain ⟨A, rfl⟩ := Int.eq_ofNat_of_zero_le (show 0 ≤ a by omega)
  obtain ⟨P, rfl⟩ := Int.eq_ofNat_of_zero_le (show 0 ≤ p by omega)
  have hsq : Hid (A ^ ((P - 1) / 2) % P = 1) := by
    rw [beq_iff_eq, show ((P : Int) - 1) / 2 = (((P - 1) / 2 : Nat) : Int) by omega, pw_nat] at hn
    show _ = _; omega
  have hpr : Hid (M.Pr P) := by have := hp.out.2.2; rw [Int.toNat_natCast] at this; exact this
  have HN := Lib.hid hn
  clear hn
  go_enter Tryz.func20, Tryz.ntmps20
  go_wp2_with (first
    | (go_at_call 15; refine (isRest_yes _ _ _ (by omega) (by omega) (by omega)).mono ?_; rintro e w' ⟨rfl, rfl⟩)
    | (go_at_call 40; refine (isPrime_yes _ _ hp).mono ?_; rintro e w1 ⟨rfl, hB⟩; have HB := Lib.hid hB; clear hB)
    | (go_at_call 41; refine (isSquare_is _ _ true _ (by omega) (by omega) (by omega) HN.out).mono ?_; rintro e w' ⟨rfl, rfl⟩))
  refine (rootOf_isP A P _ hpr (by omega) (by omega) (by omega) (by omega) hsq).mono ?_
  rintro e w' ⟨x, rfl, x0, xp, hx, rfl⟩
  have HX := Lib.hid hx
  clear hx
  have hxz : 1 ≤ x := by
    refine Classical.byContradiction fun hc => ?_
    obtain rfl : x = 0 := by omega
    have := HX.out; simp at this; omega
  by_cases hle : x ≤ P - x
  · go_wp2
    go_ret2
    exact ⟨x, rfl, by omega, by omega, HX.out, .inr hle, HB.out⟩
  · have hother : Hid (((P : Int) - x) * ((P : Int) - x) % (P : Int) = A) := by
      obtain ⟨X, rfl⟩ := Int.eq_ofNat_of_zero_le x0
      have := M.min_root (p := P) (x := X) (a := A) (by omega) (by have := HX.out; rw [mulmod_cast] at this; omega)
      show _ = _
      rw [show ((P : Int) - (X : Int)) = ((P - X : Nat) : Int) by omega, mulmod_cast, this]
    go_wp2
    go_ret2
    exact ⟨P - x, rfl, by omega, by omega, hother.out, .inr (by omega), HB.out⟩

end Go.Proofs.YtgcjdojhfimceaaGreat

namespace Go.Proofs.YtgcjdojhfimceaaGreat
open Go.RowKit Go.Maps

/-- The map of the small steps. -/
structure Steps {H : Type} (g p : Nat) (D : DataW H) (n : Nat) : Prop where
  map : IsMap D
  has : ∀ x : Int, Maps.has D (.int .i64 x) = true ↔ ∃ j, j < n ∧ x = ((g ^ j % p : Nat) : Int)
  val : ∀ j, j < n → D.atKey (.int .i64 ((g ^ j % p : Nat) : Int)) (.lit (.int .i64 0)) = .lit (.int .i64 j)

theorem Steps.empty {H : Type} (g p : Nat) : Steps g p (.map [] : DataW H) 0 :=
  ⟨isMap_empty, fun x => by simp [Maps.has], fun j hj => by omega⟩

theorem Steps.put {H : Type} {g p o n : Nat} {D : DataW H} (h : Steps g p D n) (ho : M.IsOrd g o p) (hn : n < o) : Steps g p (D.put (.int .i64 ((g ^ n % p : Nat) : Int)) (.lit (.int .i64 n))) (n + 1) := by
  have hk : WideAt.IsKeyLit (.int .i64 ((g ^ n % p : Nat) : Int)) := by simp [WideAt.IsKeyLit]
  refine ⟨h.map.put _ _, fun x => ?_, fun j hj => ?_⟩
  · by_cases hx : x = ((g ^ n % p : Nat) : Int)
    · subst hx
      rw [has_put_same h.map hk]
      exact ⟨fun _ => ⟨n, by omega, rfl⟩, fun _ => rfl⟩
    · rw [has_put_other (by simpa using hx), h.has]
      constructor
      · rintro ⟨j, hj, e⟩; exact ⟨j, by omega, e⟩
      · rintro ⟨j, hj, e⟩
        refine ⟨j, ?_, e⟩
        have : j ≠ n := fun e1 => hx (by rw [e, e1])
        omega
  · by_cases hjn : j = n
    · subst hjn
      exact atKey_put_same h.map hk _ _
    · have hne : ((g ^ j % p : Nat) : Int) ≠ ((g ^ n % p : Nat) : Int) := fun e => hjn (ho.eq_of (by omega) hn (by exact_mod_cast e))
      rw [atKey_put_other (by simpa using hne)]
      exact h.val j (by omega)

theorem law3 : Keyed Tryz.prog 3 := int_keyed Tryz.underlying3
theorem zero3 (w : World) : (zeroValue 3).run Tryz.prog w = .ok (.int .i64 0) w := by kernel_rfl
theorem lit_inj {H : Type} {a b : Int} (h : (DataW.lit (.int .i64 a) : DataW H) = .lit (.int .i64 b)) : a = b := by
  injection h with h; injection h

end Go.Proofs.YtgcjdojhfimceaaGreat