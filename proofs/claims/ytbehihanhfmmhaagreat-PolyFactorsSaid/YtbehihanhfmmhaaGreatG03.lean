/- Walks and plain mathematics: WalkFac, WalkOrd, OAt, WalkOrder, WalkFactor, WalkIsOrd, WalkRem, Mir, Cau, Pol, Ring, Dvm, Gcd, Xgc, Val. -/
import Derived.Test.YtbehihanhfmmhaaGreatG02
import Derived.Test.YtbehihanhfmmhaaGreatG00
import Derived.OneCell
namespace Go.Proofs.YtbehihanhfmmhaaGreat
open Go.RowKit

/-- The cells of a list of powers. -/
def flat (l : List (Nat × Nat)) : List Value := l.flatMap fun x => [.int .i64 (x.1 : Int), .int .i64 (x.2 : Int)]

theorem flat_length (l : List (Nat × Nat)) : (flat l).length = l.length * 2 := by
  induction l with
  | nil => rfl
  | cons x l ih => simp [flat] at ih ⊢; omega
theorem flat_append (l l' : List (Nat × Nat)) : flat (l ++ l') = flat l ++ flat l' := by simp [flat]

/-- The two captured variables of factors, in the blocks N and N + 1. -/
structure FSt (N : Nat) (R : Int) (v : Value) (l : List (Nat × Nat)) (w : World) : Prop where
  size : N + 1 < w.heap.size
  list : w.heap[N]? = some (.cells #[v] 46 (0, 0))
  rest : w.heap[N + 1]? = some (.cells #[.int .i64 R] 3 (0, 0))
  own : w.ownsRow (N + 2) 50 2 v l.length (flat l)

theorem FSt.setRest {N : Nat} {R : Int} {v : Value} {l : List (Nat × Nat)} {w : World} (h : FSt N R v l w) (R' : Int) : FSt N R' v l (w.setCell ⟨N + 1, 0, none⟩ (.int .i64 R')) ∧ Below N w (w.setCell ⟨N + 1, 0, none⟩ (.int .i64 R')) := by
  refine ⟨⟨?_, ?_, one_setCell h.rest, ownsRow_setCell_below h.own (by simp) _⟩, (Below.refl _ _).setCell (by simp) _⟩
  · have := h.size; simpa [World.setCell] using this
  · rw [Below.heap_setCell _ _ _ _ (by simp)]; exact h.list

theorem Tryz.infoP : (Tryz.prog.info? 50).map (fun i => (i.zero, i.size, i.bytes)) = some (some (.agg #[.int .i64 0, .int .i64 0]), 2, 16) := by kernel_rfl

theorem own_shape {w : World} {base size n : Nat} {e : TypeId} {v : Value} {xs : List Value} (h : w.ownsRow base e size v n xs) (hn : n ≠ 0) : ∃ g cap, v = .slice (some ⟨g, 0, none⟩) n cap := by
  rcases h.2 with ⟨_, h0⟩ | ⟨g, cap, _, hv, _⟩
  · exact absurd h0 hn
  · exact ⟨g, cap, hv⟩

theorem FSt.append {N : Nat} {R : Int} {v v' : Value} {l : List (Nat × Nat)} {w w1 : World} {d : Int} {k : Nat} {o : Obj} (h : FSt N R v l w)
    (hown : w1.ownsRow (N + 2) 50 2 v' (l.length + 1) (flat l ++ [.int .i64 d, .int .i64 k])) (hg : (w.alloc o).grownBy w1 v.ownBlock) :
    w1.cell? ⟨N, 0, none⟩ = some v ∧ w1.frozen? ⟨N, 0, none⟩ = false ∧ (0 ≤ d → FSt N R v' (l ++ [(d.toNat, k)]) (w1.setCell ⟨N, 0, none⟩ v')) ∧ Below N w (w1.setCell ⟨N, 0, none⟩ v') := by
  have hsz := h.size
  have hlt := h.own.lt
  have hrow : ∀ b, b < N + 2 → some b ≠ v.ownBlock := fun b hb e => by have := (hlt b e.symm).1; omega
  have hbl : ∀ b, b < N + 2 → w1.heap[b]? = w.heap[b]? := fun b hb => by
    rw [hg.block b (by simp; omega) (hrow b hb), Below.heap_alloc _ _ _ (by omega)]
  have hsz1 := hg.size
  rw [World.size_alloc] at hsz1
  have hL : w1.heap[N]? = some (.cells #[v] 46 (0, 0)) := (hbl N (by omega)).trans h.list
  refine ⟨cell_of_one hL, free_of_one hL, fun hd => ⟨?_, one_setCell hL, ?_, ?_⟩, ?_⟩
  · simp [World.setCell]; omega
  · rw [Below.heap_setCell _ _ _ _ (by simp), hbl _ (by omega)]; exact h.rest
  · have e : flat (l ++ [(d.toNat, k)]) = flat l ++ [.int .i64 d, .int .i64 k] := by
      rw [flat_append]; simp [flat, Int.toNat_of_nonneg hd]
    rw [e, show (l ++ [(d.toNat, k)]).length = l.length + 1 by simp]
    exact ownsRow_setCell_below hown (by simp) _
  · exact (((Below.refl N w).alloc (by omega) o).grown hg (by simp; omega) (fun b hb => by have := (hlt b hb).1; omega)).setCell (by simp) _

theorem take_div (R' d : Int) (e r k : Nat) (h0 : 1 ≤ R') (hR : R' ≤ 2147483647) (hd : 2 ≤ d) (hk : k < e) (h : R'.toNat = d.toNat ^ (e - k) * r) :
    R' % d = 0 ∧ (1 ≤ R' / d ∧ R' / d ≤ 2147483647) ∧ (R' / d).toNat = d.toNat ^ (e - k - 1) * r := by
  obtain ⟨X, rfl⟩ := Int.eq_ofNat_of_zero_le (show 0 ≤ R' by omega)
  obtain ⟨D, rfl⟩ := Int.eq_ofNat_of_zero_le (show 0 ≤ d by omega)
  simp only [Int.toNat_natCast] at h ⊢
  have h1 : X = D * (D ^ (e - k - 1) * r) := by
    rw [h, ← Nat.mul_assoc, ← Nat.pow_succ', show (e - k - 1).succ = e - k by omega]
  have hm : X % D = 0 := Nat.mod_eq_zero_of_dvd ⟨_, h1⟩
  have hq : X / D = D ^ (e - k - 1) * r := by
    rw [h1]; exact Nat.mul_div_cancel_left _ (by omega)
  have e1 : ((X : Int) / (D : Int)) = ((X / D : Nat) : Int) := rfl
  have e2 : ((X : Int) % (D : Int)) = ((X % D : Nat) : Int) := rfl
  have hle : X / D ≤ X := Nat.div_le_self _ _
  have hpos : X / D ≠ 0 := fun e0 => by
    rw [← hq, e0] at h1; simp at h1; omega
  rw [e1, e2]
  refine ⟨by omega, by omega, by rw [Int.toNat_natCast]; exact hq⟩

set_option maxRecDepth 100000 in
set_option maxHeartbeats 400000 in
theorem take_any (N : Nat) (R d : Int) (v : Value) (l : List (Nat × Nat)) (e r : Nat) (w : World) (hS : FSt N R v l w) (hR0 : 1 ≤ R) (hR : R ≤ 2147483647) (hd : 2 ≤ d) (hd2 : d ≤ 2147483647)
    (hl : l.length ≤ 1000) (he2 : e ≤ 1000) (he : Hid (R.toNat = d.toNat ^ e * r ∧ ¬ d.toNat ∣ r ∧ 1 ≤ r)) :
    Calls Tryz.prog 92 #[.int .i64 d, .pointer (some ⟨N + 1, 0, none⟩), .pointer (some ⟨N, 0, none⟩)] w fun x w' => x = .returned (.tuple #[]) ∧
      (∃ v', FSt N r v' (l ++ if e = 0 then [] else [(d.toNat, e)]) w') ∧ Below N w w' := by
  obtain ⟨i0, hi, hz0, hz1, hz2⟩ := info_parts Tryz.infoP
  go_enter Tryz.func92, Tryz.ntmps92
  go_wp2
  go_loopw [4] (fun x wr => ∃ (k : Nat) (R' : Int), x = .int .i64 k ∧ 1 ≤ R' ∧ R' ≤ 2147483647 ∧ k ≤ e ∧ Hid (R'.toNat = d.toNat ^ (e - k) * r) ∧ FSt N R' v l wr ∧ Below N w wr) (fun x _ => e - (intOf x).toNat)
  case atStart => exact ⟨0, R, rfl, hR0, hR, by omega, he.out.1, hS, Below.refl _ _⟩
  case round =>
    obtain ⟨k, R', rfl, hR0', hR', hk, HR, hS', hB⟩ := hrel
    have cR := cell_of_one hS'.rest
    have fR := free_of_one hS'.rest
    by_cases hlt : k < e
    · have hdiv := Lib.hid (take_div R' d e r k hR0' hR' hd hlt HR.out)
      have ht : ((R' % d : Int) == 0) = true := by simpa using hdiv.out.1
      have hq := hdiv.out.2.1
      go_wp2
      go_roundw
      case rel => exact ⟨k + 1, R' / d, by go_num, hq.1, hq.2, by omega, by rw [show e - (k + 1) = e - k - 1 by omega]; exact hdiv.out.2.2, (hS'.setRest _).1, hB.trans (hS'.setRest _).2⟩
      case measure => simp [intOf]; omega
    · obtain rfl : k = e := by omega
      have hRr : R' = r := by have := HR.out; simp at this; omega
      have HRr := Lib.hid hRr
      have ht : ((R' % d : Int) == 0) = false := by
        rw [beq_eq_false_iff_ne]
        intro h0
        apply he.out.2.1
        have h1 := Int.dvd_of_emod_eq_zero h0
        rw [hRr] at h1
        obtain ⟨D, rfl⟩ := Int.eq_ofNat_of_zero_le (show 0 ≤ d by omega)
        rw [Int.toNat_natCast]
        exact_mod_cast h1
      clear hRr
      by_cases h0 : k = 0
      · subst h0
        go_wp2
        go_end0
        exact ⟨rfl, ⟨v, by rw [← HRr.out]; simpa using hS'⟩, hB⟩
      · have hk0 : 0 < k := by omega
        have cL := cell_of_one hS'.list
        have fL := free_of_one hS'.list
        have hown := hS'.own
        have hsz := hS'.size
        go_wp2_with (at_builtin; refine wpList_append_own _ rfl _ _ 46 rfl (N + 2) 50 i0 (.agg #[.int .i64 0, .int .i64 0]) 2 16 Tryz.underlying46 hi hz0 hz1 hz2 rfl (by decide) _ _ _ rfl (hown.alloc _) ⟨wr.heap.size, 0, none⟩ 1 1 [.int .i64 d, .int .i64 k] rfl rfl ?c1 ?c2 ?c3 ?c4 ?c5 ?_)
        case c1 => exact cell_two_new _ _ _ _
        case c2 => intro u hu; simp at hu; rcases hu with rfl | rfl <;> rfl
        case c3 => unfold maxLen; omega
        case c4 => omega
        case c5 => simp; omega
        intro v' w1 hown' hgrow _
        obtain ⟨g', cap', rfl⟩ := own_shape hown' (by omega)
        have hF := Lib.hid (hS'.append hown' hgrow)
        have cL' := hF.out.1
        have fL' := hF.out.2.1
        clear hown' hgrow
        go_wp2
        go_end0
        exact ⟨rfl, ⟨_, by rw [← HRr.out]; exact hF.out.2.2.1 (by omega)⟩, hB.trans hF.out.2.2.2⟩

theorem FSt.start (w : World) (n : Int) : FSt w.heap.size n (.slice none 0 0) [] ((w.alloc (.cells #[.slice none 0 0] 46)).alloc (.cells #[.int .i64 n] 3)) := by
  refine ⟨by simp, ?_, ?_, World.ownsRow_nil _ _ _ _⟩
  · rw [Below.heap_alloc _ _ _ (by simp)]; exact heap_alloc_new _ _
  · have := heap_alloc_new (w.alloc (.cells #[.slice none 0 0] 46)) (.cells #[.int .i64 n] 3)
    rw [World.size_alloc] at this
    exact this

/-- Where the loop of factors stands: the first k powers are listed, the product of the others is the rest. -/
structure FAt (N : Nat) (n : Int) (L : List (Nat × Nat)) (lo : Nat) (k : Nat) (R : Int) (v : Value) (w0 w : World) : Prop where
  st : FSt N R v (L.take k) w
  below : Below N w0 w
  le : k ≤ L.length
  rest : R = (M.prodP (L.drop k) : Int)
  fac : M.FacFrom lo (L.drop k)
  rle : 1 ≤ R ∧ R ≤ 2147483647
  len : (L.take k).length ≤ 1000

theorem FAt.next {N : Nat} {n : Int} {L : List (Nat × Nat)} {d k k' e r : Nat} {R : Int} {v v' : Value} {w0 w w' : World} (h : FAt N n L (d - 1) k R v w0 w) (hL : M.FacFrom 1 L) (hp : M.prodP L ≤ 2147483647)
    (T : M.Taken L k d k' e r) (hS : FSt N r v' (L.take k ++ if e = 0 then [] else [(d, e)]) w') (hB : Below N w w') : FAt N n L d k' r v' w0 w' := by
  have h1 := hL.prod_drop_le k'
  have h2 := T.fac.pos
  have h3 := hL.length_le hp
  refine ⟨T.list ▸ hS, h.below.trans hB, T.le, by rw [T.rest], T.fac, ?_, by simp; omega⟩
  rw [T.rest]; omega

theorem FAt.ready {N : Nat} {n : Int} {L : List (Nat × Nat)} {d k : Nat} {R : Int} {v : Value} {w0 w : World} (h : FAt N n L (d - 1) k R v w0 w) (hd : 2 ≤ d) :
    ∃ k' e r, M.Taken L k d k' e r ∧ e ≤ 1000 ∧ Hid (R.toNat = d ^ e * r ∧ ¬ d ∣ r ∧ 1 ≤ r) := by
  obtain ⟨k', e, r, T⟩ := M.take_step hd h.le h.fac
  have hv := T.val
  have hR : R.toNat = M.prodP (L.drop k) := by rw [h.rest]; simp
  refine ⟨k', e, r, T, ?_, by rw [hR]; exact hv⟩
  have h1 : 2 ^ e ≤ d ^ e := Nat.pow_le_pow_left hd e
  have h2 : d ^ e * 1 ≤ d ^ e * r := Nat.mul_le_mul_left _ hv.2.2
  have h3 := h.rle
  have := M.lt_of_two_pow (e := e) (n := M.prodP (L.drop k)) (by omega) (by omega)
  omega

theorem FAt.odd {N : Nat} {n : Int} {L : List (Nat × Nat)} {k : Nat} {R K : Int} {v : Value} {w0 w : World} (h : FAt N n L K.toNat k R v w0 w) (ho : K % 2 = 1) (h3 : 3 ≤ K) : FAt N n L ((K + 2).toNat - 1) k R v w0 w :=
  ⟨h.st, h.below, h.le, h.rest, by rw [show (K + 2).toNat - 1 = K.toNat + 1 by omega]; exact h.fac.next_odd (by omega) (by omega), h.rle, h.len⟩

theorem FAt.last {N : Nat} {n : Int} {L : List (Nat × Nat)} {k : Nat} {R K : Int} {v : Value} {w0 w : World} (h : FAt N n L (K.toNat - 1) k R v w0 w) (hK : 3 ≤ K) (hs : R < K * K) :
    (R ≤ 1 → L.take k = L) ∧ (1 < R → L.take k ++ [(R.toNat, 1)] = L) := by
  have hr := h.rest
  have hsn : M.prodP (L.drop k) < K.toNat * K.toNat := by
    obtain ⟨x, rfl⟩ := Int.eq_ofNat_of_zero_le (show 0 ≤ K by omega)
    rw [Int.toNat_natCast]
    have : (M.prodP (L.drop k) : Int) < (x * x : Nat) := by rw [← hr]; exact_mod_cast hs
    omega
  have hta := List.take_append_drop k L
  rcases h.fac.last (by omega) hsn with ⟨h1, h2⟩ | ⟨h1, h2, _⟩
  · refine ⟨fun _ => ?_, fun hc => by omega⟩
    rw [h1, List.append_nil] at hta
    exact hta
  · refine ⟨fun hc => by omega, fun _ => ?_⟩
    have e : R.toNat = M.prodP (L.drop k) := by omega
    rw [e, ← h1, hta]

theorem sq_bd' (k : Int) (h0 : 0 ≤ k) (h : k ≤ 46342) : 0 ≤ k * k ∧ k * k ≤ 2147580964 := by
  have h1 : k * k ≤ 46342 * 46342 := Int.mul_le_mul h h h0 (by omega)
  exact ⟨Int.mul_nonneg h0 h0, by omega⟩

theorem _root_.Go.World.ownsRow.base_le {w : World} {base b size n : Nat} {e : TypeId} {v : Value} {xs : List Value} (h : w.ownsRow base e size v n xs) (hb : b ≤ base) : w.ownsRow b e size v n xs := by
  refine ⟨h.1, ?_⟩
  rcases h.2 with h2 | ⟨g, cap, cur, h3, h4, h5⟩
  · exact .inl h2
  · exact .inr ⟨g, cap, cur, h3, by omega, h5⟩

set_option maxRecDepth 100000 in
set_option maxHeartbeats 400000 in
theorem factors_any (n : Int) (L : List (Nat × Nat)) (w : World) (hn : 1 ≤ n) (hn2 : n ≤ 2147483647) (hL : Hid (M.IsFac n.toNat L)) :
    Calls Tryz.prog 74 #[.int .i64 n] w fun x w' => (∃ v, x = .returned v ∧ w'.ownsRow w.heap.size 50 2 v L.length (flat L)) ∧ Below w.heap.size w w' := by
  have hp := Lib.hid (show M.prodP L ≤ 2147483647 by rw [hL.out.2]; omega)
  have h0 : FAt w.heap.size n L (2 - 1) 0 n (.slice none 0 0) w ((w.alloc (.cells #[.slice none 0 0] 46)).alloc (.cells #[.int .i64 n] 3)) :=
    ⟨FSt.start w n, ((Below.refl _ _).alloc (Nat.le_refl _) _).alloc (by simp) _, by omega, by rw [List.drop_zero, hL.out.2]; omega, hL.out.1, ⟨hn, hn2⟩, by simp⟩
  obtain ⟨k1, e1, r1, T1, he1, hv1⟩ := h0.ready (by omega)
  have H0 := Lib.hid h0
  have HT1 := Lib.hid T1
  clear h0 T1
  go_enter Tryz.func74, Tryz.ntmps74
  go_wp2_with (fail)
  refine (take_any w.heap.size n 2 (.slice none 0 0) [] e1 r1 _ (FSt.start w n) hn hn2 (by omega) (by omega) (by simp) he1 hv1).mono ?_
  rintro x w1 ⟨rfl, ⟨v1, hS1⟩, hB1⟩
  have HF := Lib.hid (H0.out.next hL.out.1 hp.out HT1.out hS1 hB1)
  clear hS1 hB1
  go_wp2_with (fail)
  go_loopw [6] (fun x wr => ∃ (K R : Int) (k : Nat) (v : Value), x = .int .i64 K ∧ 3 ≤ K ∧ K ≤ 46342 ∧ Hid (K % 2 = 1) ∧ Hid (FAt w.heap.size n L (K.toNat - 1) k R v w wr)) (fun x _ => (46343 - intOf x).toNat)
  case atStart => exact ⟨3, r1, k1, v1, rfl, by omega, by omega, (show (3 : Int) % 2 = 1 by decide), HF.out⟩
  case round =>
    obtain ⟨K, R, k, v, rfl, hK3, hK, hKo, HA⟩ := hrel
    have cR := cell_of_one HA.out.st.rest
    have hR0 := HA.out.rle.1
    have hR1 := HA.out.rle.2
    have hsq := sq_bd' K (by omega) hK
    by_cases hs : K * K ≤ R
    · have hsm := sq_small K R (by omega) (by omega) hs
      obtain ⟨k', e, r, T, he, hv⟩ := HA.out.ready (by omega)
      have HT := Lib.hid T
      clear T
      go_wp2_with (go_at_call 92; refine (take_any w.heap.size R K v (L.take k) e r _ HA.out.st (by omega) (by omega) (by omega) (by omega) HA.out.len he hv).mono ?_; rintro x w2 ⟨rfl, ⟨v2, hS2⟩, hB2⟩; have HS2 := Lib.hid (And.intro hS2 hB2); clear hS2 hB2)
      have HF2 := Lib.hid (HA.out.next hL.out.1 hp.out HT.out HS2.out.1 HS2.out.2)
      go_roundw
      case rel => exact ⟨K + 2, r, k', v2, rfl, by omega, by omega, by have := hKo.out; show (K + 2) % 2 = 1; omega, HF2.out.odd hKo.out hK3⟩
      case measure => simp [intOf]; omega
    · have hlast := Lib.hid (HA.out.last (by omega) (by omega))
      by_cases h1 : 1 < R
      · have hB : Hid (L.take k ++ [(R.toNat, 1)] = L) := hlast.out.2 h1
        have hv : Hid (R.toNat = R.toNat ^ 1 * 1 ∧ ¬ R.toNat ∣ 1 ∧ 1 ≤ 1) := ⟨by simp, fun hd => by have := Nat.le_of_dvd (by omega) hd; omega, by omega⟩
        go_wp2_with (go_at_call 92; refine (take_any w.heap.size R R v (L.take k) 1 1 _ HA.out.st (by omega) (by omega) (by omega) (by omega) HA.out.len (by omega) hv).mono ?_; rintro x w2 ⟨rfl, ⟨v2, hS2⟩, hB2⟩; have HS2 := Lib.hid (And.intro hS2 hB2); clear hS2 hB2; have cL := cell_of_one HS2.out.1.list)
        go_ret
        refine ⟨⟨v2, rfl, ?_⟩, HA.out.below.trans HS2.out.2⟩
        have := HS2.out.1.own.base_le (b := w.heap.size) (by omega)
        rw [if_neg (by omega), hB.out] at this
        exact this
      · have hB : Hid (L.take k = L) := hlast.out.1 (by omega)
        have cL := cell_of_one HA.out.st.list
        go_wp2_with (fail)
        go_ret
        refine ⟨⟨v, rfl, ?_⟩, HA.out.below⟩
        have := HA.out.st.own.base_le (b := w.heap.size) (by omega)
        rw [hB.out] at this
        exact this

end Go.Proofs.YtbehihanhfmmhaaGreat

namespace Go.Proofs.YtbehihanhfmmhaaGreat
open Go.RowKit

/-- A slice that reads as the cells xs, n elements of size cells each. -/
def Rd (w : World) (v : Value) (size n : Nat) (xs : List Value) : Prop :=
  xs.length = n * size ∧ ∃ (a : Option Addr) (cap : Nat), v = .slice a n cap ∧ n ≤ cap ∧ (n = 0 ∨ ∃ b, a = some ⟨b, 0, none⟩ ∧ b < w.heap.size ∧ ∀ j u, xs[j]? = some u → w.cell? ⟨b, j, none⟩ = some u)

theorem Rd.of_own {w : World} {base size n : Nat} {e : TypeId} {v : Value} {xs : List Value} (h : w.ownsRow base e size v n xs) : Rd w v size n xs := by
  refine ⟨h.1, ?_⟩
  rcases h.2 with ⟨h1, h2⟩ | ⟨g, cap, cur, hv, h3, h4, h5, h6, h7⟩
  · subst h2; exact ⟨none, 0, h1, Nat.le_refl _, .inl rfl⟩
  · refine ⟨_, cap, hv, h5, .inr ⟨g, rfl, lt_of_block h4, fun j u hu => ?_⟩⟩
    have := h.cells (g := g) (by rw [hv]; rfl) j u hu
    have hadd : (⟨g, 0, none⟩ : Addr).add j = ⟨g, j, none⟩ := by unfold Addr.add; split <;> simp_all
    rw [hadd] at this
    exact this

theorem Rd.below {w w' : World} {v : Value} {size n B : Nat} {xs : List Value} (h : Rd w v size n xs) (hB : Below B w w') (hle : w.heap.size ≤ B) : Rd w' v size n xs := by
  obtain ⟨h1, a, cap, hv, hc, h2⟩ := h
  refine ⟨h1, a, cap, hv, hc, ?_⟩
  rcases h2 with h2 | ⟨b, ha, hb, h2⟩
  · exact .inl h2
  · exact .inr ⟨b, ha, by have := hB.size; omega, fun j u hu => by rw [hB.cell (p := ⟨b, j, none⟩) (by show b < B; omega)]; exact h2 j u hu⟩

theorem cell_one_at (W : World) (v : Value) (t : TypeId) (b : Nat) (hb : b = W.heap.size) : ∀ j u, [v][j]? = some u → (W.alloc (.cells #[v] t)).cell? ((⟨b, 0, none⟩ : Addr).add j) = some u := by
  subst hb; exact cell_one_new _ _ _
theorem cell_two_at (W : World) (v v' : Value) (t : TypeId) (b : Nat) (hb : b = W.heap.size) : ∀ j u, [v, v'][j]? = some u → (W.alloc (.cells #[v, v'] t)).cell? ((⟨b, 0, none⟩ : Addr).add j) = some u := by
  subst hb; exact cell_two_new _ _ _ _

theorem below_drewN {B : Nat} {a w : World} (h : Below B a w) (n : Nat) : Below B a (w.drewN n) := h.trans ⟨rfl, rfl, rfl, Nat.le_refl _, fun _ _ => rfl⟩

theorem flat_get (L : List (Nat × Nat)) (k : Nat) (h : k < L.length) : (flat L)[k * 2]? = some (.int .i64 (L[k].1 : Int)) ∧ (flat L)[k * 2 + 1]? = some (.int .i64 (L[k].2 : Int)) := by
  induction L generalizing k with
  | nil => simp at h
  | cons x L ih =>
    cases k with
    | zero => simp [flat]
    | succ k =>
      have := ih k (by simpa using h)
      have e : flat (x :: L) = [.int .i64 (x.1 : Int), .int .i64 (x.2 : Int)] ++ flat L := by simp [flat]
      rw [e, List.getElem?_append_right (by simp; omega), List.getElem?_append_right (by simp; omega)]
      simp only [List.length_cons, List.length_nil, List.getElem_cons_succ]
      rw [show (k + 1) * 2 - (0 + 1 + 1) = k * 2 by omega, show (k + 1) * 2 + 1 - (0 + 1 + 1) = k * 2 + 1 by omega]
      exact this

/-- The primes of a factorization, as cells. -/
def heads (L : List (Nat × Nat)) : List Value := L.map fun x => .int .i64 (x.1 : Int)
theorem heads_length (L : List (Nat × Nat)) : (heads L).length = L.length := by simp [heads]
theorem heads_take (L : List (Nat × Nat)) (k : Nat) (h : k < L.length) : heads (L.take (k + 1)) = heads (L.take k) ++ [.int .i64 (L[k].1 : Int)] := by
  unfold heads; rw [List.take_succ_eq_append_getElem h, List.map_append]; rfl

theorem Tryz.infoI : (Tryz.prog.info? 3).map (fun i => (i.zero, i.size, i.bytes)) = some (some (.int .i64 0), 1, 8) := by kernel_rfl

/-- The units behind the first k primes. -/
def unitsAt (L : List (Nat × Nat)) (k : Nat) : Nat := M.phiP (L.take k) * M.prodP (L.drop k)

theorem unitsAt_step {L : List (Nat × Nat)} {lo : Nat} (h : M.FacFrom lo L) {k : Nat} (hk : k < L.length) :
    unitsAt L k / L[k].1 * (L[k].1 - 1) = unitsAt L (k + 1) ∧ unitsAt L (k + 1) ≤ unitsAt L k ∧ 2 ≤ L[k].1 := by
  have hd : L.drop k = L[k] :: L.drop (k + 1) := List.drop_eq_getElem_cons hk
  have hg := h.gt L[k] (List.getElem_mem hk)
  have h2 := hg.2.1.1
  have hphi : M.phiP (L.take (k + 1)) = M.phiP (L.take k) * (L[k].1 ^ (L[k].2 - 1) * (L[k].1 - 1)) := by
    rw [List.take_succ_eq_append_getElem hk]
    have : ∀ l : List (Nat × Nat), ∀ x, M.phiP (l ++ [x]) = M.phiP l * (x.1 ^ (x.2 - 1) * (x.1 - 1)) := by
      intro l x
      induction l with
      | nil => simp [M.phiP]
      | cons y l ih => rw [List.cons_append, M.phiP, ih, M.phiP]; ac_rfl
    exact this _ _
  have hpow : L[k].1 ^ L[k].2 = L[k].1 * L[k].1 ^ (L[k].2 - 1) := by rw [← Nat.pow_succ']; congr 1; omega
  have he : unitsAt L k = L[k].1 * (M.phiP (L.take k) * L[k].1 ^ (L[k].2 - 1) * M.prodP (L.drop (k + 1))) := by
    unfold unitsAt
    rw [hd, M.prodP, hpow]; ac_rfl
  have he1 : unitsAt L (k + 1) = M.phiP (L.take k) * L[k].1 ^ (L[k].2 - 1) * M.prodP (L.drop (k + 1)) * (L[k].1 - 1) := by
    unfold unitsAt
    rw [hphi]; ac_rfl
  refine ⟨?_, ?_, h2⟩
  · rw [he, Nat.mul_div_cancel_left _ (by omega), he1]
  · rw [he, he1, Nat.mul_comm]; exact Nat.mul_le_mul_right _ (by omega)

theorem units_cast (L : List (Nat × Nat)) (k : Nat) (hk : k < L.length) (h2 : 2 ≤ L[k].1) : ((unitsAt L k : Nat) : Int) / ((L[k].1 : Nat) : Int) * ((L[k].1 : Int) - 1) = ((unitsAt L k / L[k].1 * (L[k].1 - 1) : Nat) : Int) := by
  rw [Int.natCast_mul, Int.natCast_ediv, Int.natCast_sub (by omega)]
  rfl

end Go.Proofs.YtbehihanhfmmhaaGreat
namespace Go.Proofs.YtbehihanhfmmhaaGreat.M

/-- The exponent e, behind the first k primes: the order divides it, and no more of these primes can be divided out. -/
structure OAt (o phi : Nat) (L : List (Nat × Nat)) (k e : Nat) : Prop where
  dvd : o ∣ e
  up : e ∣ phi
  pos : 1 ≤ e
  done : ∀ j (h : j < L.length), j < k → ¬ o * L[j].1 ∣ e

theorem OAt.start {a o phi m : Nat} {L : List (Nat × Nat)} (ho : IsOrd a o m) (h1 : 1 ≤ phi) (h : a ^ phi % m = 1 % m) : OAt o phi L 0 phi :=
  ⟨ho.dvd h, Nat.dvd_refl _, h1, fun j _ hj => by omega⟩

theorem order_test {a o m e q : Nat} (ho : IsOrd a o m) (hq : 1 ≤ q) (hd : q ∣ e) : a ^ (e / q) % m = 1 % m ↔ o * q ∣ e := by
  obtain ⟨c, rfl⟩ := hd
  rw [Nat.mul_div_cancel_left _ (by omega), Nat.mul_comm o q]
  constructor
  · intro h
    exact Nat.mul_dvd_mul_left q (ho.dvd h)
  · intro h
    obtain ⟨d, hd⟩ := Nat.dvd_of_mul_dvd_mul_left (by omega) h
    rw [hd]; exact pow_one_mul ho.one d

theorem OAt.div {o phi k e q : Nat} {L : List (Nat × Nat)} (h : OAt o phi L k e) (hq : 2 ≤ q) (hd : o * q ∣ e) : OAt o phi L k (e / q) ∧ e / q < e := by
  obtain ⟨c, hc⟩ := hd
  have hpos := h.pos
  have he : e / q = o * c := by rw [hc, show o * q * c = q * (o * c) by ac_rfl, Nat.mul_div_cancel_left _ (by omega)]
  have hde : e / q ∣ e := Nat.div_dvd_of_dvd ⟨o * c, by rw [hc]; ac_rfl⟩
  have hlt : e / q < e := Nat.div_lt_self hpos (by omega)
  refine ⟨⟨⟨c, he⟩, Nat.dvd_trans hde h.up, ?_, fun j hj hk hjd => h.done j hj hk (Nat.dvd_trans hjd hde)⟩, hlt⟩
  exact Nat.pos_of_dvd_of_pos hde hpos

theorem OAt.next {o phi k e : Nat} {L : List (Nat × Nat)} (h : OAt o phi L k e) (hk : k < L.length) (hd : ¬ o * L[k].1 ∣ e) : OAt o phi L (k + 1) e :=
  ⟨h.dvd, h.up, h.pos, fun j hj hjk => by
    by_cases e1 : j = k
    · subst e1; exact hd
    · exact h.done j hj (by omega)⟩

theorem OAt.finish {o phi e : Nat} {L : List (Nat × Nat)} (h : OAt o phi L L.length e) (hL : IsFac phi L) : e = o := by
  obtain ⟨c, hc⟩ := h.dvd
  have hpos := h.pos
  by_cases h1 : c = 1
  · subst h1; omega
  · have hc0 : c ≠ 0 := fun e0 => by subst e0; omega
    obtain ⟨q, hq, hqc⟩ := exists_prime c (by omega)
    exfalso
    have hqe : q ∣ phi := Nat.dvd_trans (Nat.dvd_trans hqc ⟨o, by rw [hc, Nat.mul_comm]⟩) h.up
    obtain ⟨x, hx, hxq⟩ := hL.1.mem_of_dvd hq (by rw [hL.2]; exact hqe)
    obtain ⟨j, hj, hjx⟩ := List.getElem_of_mem hx
    refine h.done j hj hj ?_
    rw [hjx, hxq, hc]
    exact Nat.mul_dvd_mul_left o hqc

/-- In the form that the program's tests have. -/
theorem pw_test {a m : Int} {o e q : Nat} (ho : IsOrd a.toNat o m.toNat) (hq : 1 ≤ q) (hd : q ∣ e) : pw a ((e : Int) / (q : Int)) m = ((1 % m.toNat : Nat) : Int) ↔ o * q ∣ e := by
  rw [← order_test ho hq hd]
  unfold pw
  have : ((e : Int) / (q : Int)).toNat = e / q := by
    rw [show ((e : Int) / (q : Int)) = ((e / q : Nat) : Int) from rfl, Int.toNat_natCast]
  rw [this]
  omega

end Go.Proofs.YtbehihanhfmmhaaGreat.M

namespace Go.Proofs.YtbehihanhfmmhaaGreat
open Go.RowKit

end Go.Proofs.YtbehihanhfmmhaaGreat
namespace Go.Proofs.YtbehihanhfmmhaaGreat
open Go.RowKit

theorem fac_of_prime {n : Nat} {L : List (Nat × Nat)} (hp : M.Pr n) (hL : M.IsFac n L) : L = [(n, 1)] :=
  hL.unique ⟨⟨by have := hp.1; show 1 < n; omega, hp, Nat.le_refl _, trivial⟩, by simp [M.prodP]⟩

theorem Factor_yes (n : Int) (L : List (Nat × Nat)) (w : World) (hn : 1 ≤ n) (hn2 : n ≤ 2147483647) (hL : Hid (M.IsFac n.toNat L)) :
    Calls Tryz.prog 57 #[.int .i64 n] w fun x w' => (∃ v, x = .returned (.tuple #[v, .int .i64 0]) ∧ w'.ownsRow w.heap.size 50 2 v L.length (flat L)) ∧ Below w.heap.size w w' := by
  go_enter Tryz.func57, Tryz.ntmps57
  go_wp2_with (first
    | (go_at_call 73; refine (isNumber_yes _ _ (by omega) (by omega)).mono ?_; rintro e w' ⟨rfl, rfl⟩)
    | (go_at_call 74; refine (factors_any n L _ (by omega) (by omega) hL).mono ?_; rintro x w1 ⟨⟨vf, rfl, hown⟩, hB1⟩; have HB := Lib.hid (And.intro hown hB1); clear hown hB1))
  go_ret2
  exact ⟨⟨_, rfl, HB.out.1⟩, HB.out.2⟩

theorem Factor_no (n : Int) (w : World) (hn : n < 1 ∨ 2147483647 < n) :
    Calls Tryz.prog 57 #[.int .i64 n] w fun x w' => x = .returned (.tuple #[.slice none 0 0, .int .i64 2]) ∧ w = w' := by
  go_enter Tryz.func57, Tryz.ntmps57
  go_wp2_with (go_at_call 73; refine (isNumber_no _ _ hn).mono ?_; rintro e w' ⟨rfl, rfl⟩)
  go_ret2
  exact ⟨rfl, rfl⟩

/-! ### The reference's Factor -/
theorem least_at {L : List (Nat × Nat)} {lo k : Nat} (h : M.FacFrom lo L) (hk : k < L.length) : Least (M.prodP (L.drop k) : Int) (L[k].1 : Int) := by
  have hd : L.drop k = L[k] :: L.drop (k + 1) := List.drop_eq_getElem_cons hk
  have hf := h.drop k
  rw [hd] at hf ⊢
  refine ⟨by have := hf.2.1.1; omega, by exact_mod_cast M.dvd_prodP (List.mem_cons_self ..) hf.2.2.1, fun j hj hjd => ?_⟩
  obtain ⟨J, rfl⟩ := Int.eq_ofNat_of_zero_le (show 0 ≤ j by omega)
  have := hf.head_le (k := J) (by omega) (by exact_mod_cast hjd)
  omega

theorem prod_at {L : List (Nat × Nat)} {lo k : Nat} (h : M.FacFrom lo L) (hk : k < L.length) :
    M.prodP (L.drop k) = L[k].1 ^ L[k].2 * M.prodP (L.drop (k + 1)) ∧ ¬ L[k].1 ∣ M.prodP (L.drop (k + 1)) ∧ 1 ≤ M.prodP (L.drop (k + 1)) ∧ 2 ≤ L[k].1 ∧ 2 ≤ M.prodP (L.drop k) := by
  have hd : L.drop k = L[k] :: L.drop (k + 1) := List.drop_eq_getElem_cons hk
  have hf := h.drop k
  rw [hd] at hf
  refine ⟨by rw [hd]; rfl, hf.2.2.2.not_dvd hf.2.1, hf.2.2.2.pos, hf.2.1.1, ?_⟩
  have h1 := M.dvd_prodP (List.mem_cons_self (a := L[k]) (l := L.drop (k + 1))) hf.2.2.1
  have := Nat.le_of_dvd hf.pos h1
  rw [hd]
  have := hf.2.1.1
  omega

theorem flat_take (L : List (Nat × Nat)) (k : Nat) (h : k < L.length) : flat (L.take (k + 1)) = flat (L.take k) ++ [.int .i64 (L[k].1 : Int), .int .i64 (L[k].2 : Int)] := by
  rw [List.take_succ_eq_append_getElem h, flat_append]; simp [flat]

set_option maxRecDepth 100000 in
set_option maxHeartbeats 1000000 in
theorem refFactor_any (n : Int) (L : List (Nat × Nat)) (w : World) (hn : 1 ≤ n) (hn2 : n ≤ 2147483647) (hL : Hid (M.IsFac n.toNat L)) :
    Calls Tryz.prog 22 #[.int .i64 n] w fun x w' => (∃ v, x = .returned v ∧ w'.ownsRow w.heap.size 50 2 v L.length (flat L)) ∧ Below w.heap.size w w' := by
  obtain ⟨i0, hi, hz0, hz1, hz2⟩ := info_parts Tryz.infoP
  have hlen : L.length ≤ 30 := hL.out.1.length_le (by rw [hL.out.2]; omega)
  have hple : M.prodP L ≤ 2147483647 := by rw [hL.out.2]; omega
  have hst : (n : Int) = (M.prodP (L.drop 0) : Int) := by rw [List.drop_zero, hL.out.2]; omega
  have HST := Lib.hid hst
  clear hst
  go_enter Tryz.func22, Tryz.ntmps22
  go_wp2_with (fail)
  go_loopw [0, 3] (fun x v wr => ∃ (k : Nat) (R : Int), x = .int .i64 R ∧ k ≤ L.length ∧ 1 ≤ R ∧ R ≤ 2147483647 ∧ Hid (R = (M.prodP (L.drop k) : Int)) ∧ wr.ownsRow w.heap.size 50 2 v k (flat (L.take k)) ∧ Below w.heap.size w wr) (fun x _ _ => (intOf x).toNat)
  case atStart => exact ⟨0, n, rfl, by omega, hn, hn2, HST.out, by simpa [flat] using World.ownsRow_nil _ _ _ _, Below.refl _ _⟩
  case round =>
    obtain ⟨k, R, rfl, hk, hR0, hR1, HR, hown, hB⟩ := hrel
    have hBs := hB.size
    by_cases hlt : k < L.length
    · obtain ⟨hp1, hp2, hp3, hq2, hpp⟩ := prod_at hL.out.1 hlt
      have HP := Lib.hid (And.intro hp1 (And.intro hp2 hp3))
      have hleast : Hid (Least R (L[k].1 : Int)) := by have := least_at hL.out.1 hlt; rw [← HR.out] at this; exact this
      have hRR := HR.out
      have hR2 : 2 ≤ R := by omega
      have hqR : L[k].1 ≤ 2147483647 := by have := hleast.out.le (by omega); omega
      have hple2 := hL.out.1.prod_drop_le (k + 1)
      have hnext : 1 ≤ (M.prodP (L.drop (k + 1)) : Int) ∧ (M.prodP (L.drop (k + 1)) : Int) ≤ 2147483647 := by omega
      have hm : M.prodP (L.drop (k + 1)) < R.toNat := by
        have h1 : L[k].1 ^ 1 ≤ L[k].1 ^ L[k].2 := Nat.pow_le_pow_right (by omega) (hL.out.1.gt _ (List.getElem_mem hlt)).2.2
        rw [Nat.pow_one] at h1
        have h2 : 2 * M.prodP (L.drop (k + 1)) ≤ L[k].1 ^ L[k].2 * M.prodP (L.drop (k + 1)) := Nat.mul_le_mul_right _ (by omega)
        omega
      have HM := Lib.hid hm
      have hexp : L[k].2 ≤ 30 := by
        have h1 : 2 ^ L[k].2 ≤ L[k].1 ^ L[k].2 := Nat.pow_le_pow_left hq2 _
        have h2 : L[k].1 ^ L[k].2 * 1 ≤ L[k].1 ^ L[k].2 * M.prodP (L.drop (k + 1)) := Nat.mul_le_mul_left _ hp3
        exact M.lt_of_two_pow (n := M.prodP (L.drop k)) (by omega) (by omega)
      clear hp1 hp2 hpp hRR hm hp3 hple2
      obtain ⟨q, hq⟩ : ∃ q, q = L[k].1 := ⟨_, rfl⟩
      obtain ⟨E, hE⟩ : ∃ E, E = L[k].2 := ⟨_, rfl⟩
      obtain ⟨r, hr⟩ : ∃ r, r = M.prodP (L.drop (k + 1)) := ⟨_, rfl⟩
      rw [← hq, ← hE, ← hr] at HP
      rw [← hq] at hleast hq2 hqR
      rw [← hE] at hexp
      rw [← hr] at hnext HM
      have HQ := Lib.hid (And.intro hq (And.intro hE hr))
      clear hq hE hr
      have hRv : Hid (R.toNat = q ^ E * r) := by show _ = _; rw [← HP.out.1, HR.out]; exact Int.toNat_natCast _
      go_wp2_with (go_at_call 47; refine (Divisor_any _ _ _ (by omega) (by omega) hleast).mono ?_; rintro e w' ⟨rfl, rfl⟩)
      go_loop [0, 5] (fun x ex => ∃ (j : Nat) (R : Int), x = .int .i64 R ∧ ex = .int .i64 j ∧ j ≤ E ∧ 1 ≤ R ∧ R ≤ 2147483647 ∧ Hid (R.toNat = q ^ (E - j) * r)) (fun _ ex => E - (intOf ex).toNat)
      case atStart => exact ⟨0, R, rfl, rfl, by omega, by omega, by omega, hRv.out⟩
      case round =>
        obtain ⟨j, R', rfl, rfl, hj, hR0', hR1', HR'⟩ := hrel
        by_cases hjE : j < E
        · have hdiv := Lib.hid (take_div R' q E r j hR0' hR1' (by omega) hjE (by rw [Int.toNat_natCast]; exact HR'.out))
          have ht : ((R' % (q : Int)) == 0) = true := by simpa using hdiv.out.1
          have hb := hdiv.out.2.1
          go_wp2_with (fail)
          go_round
          case rel => exact ⟨j + 1, R' / q, rfl, by go_num, by omega, hb.1, hb.2, by have := hdiv.out.2.2; rw [Int.toNat_natCast] at this; rw [show E - (j + 1) = E - j - 1 by omega]; exact this⟩
          case measure => simp [intOf]; omega
        · obtain rfl : j = E := by omega
          have hRr : R' = r := by have := HR'.out; simp at this; omega
          have HRr := Lib.hid hRr
          have ht : ((R' % (q : Int)) == 0) = false := by
            rw [beq_eq_false_iff_ne]
            intro h0
            apply HP.out.2.1
            have h1 := Int.dvd_of_emod_eq_zero h0
            rw [hRr] at h1
            exact_mod_cast h1
          clear hRr
          go_wp2_with (at_builtin; refine wpList_append_own _ rfl _ _ 46 rfl w.heap.size 50 i0 (.agg #[.int .i64 0, .int .i64 0]) 2 16 Tryz.underlying46 hi hz0 hz1 hz2 rfl (by decide) _ _ _ rfl (hown.alloc _) ⟨wr.heap.size, 0, none⟩ 1 1 [.int .i64 q, .int .i64 j] rfl rfl ?c1 ?c2 ?c3 ?c4 ?c5 ?_)
          case c2 => exact ⟨rfl, rfl⟩
          case c3 => unfold maxLen; omega
          case c4 => omega
          case c5 => omega
          intro v' w1 hown' hgrow _
          have HO := Lib.hid (And.intro hown' hgrow)
          clear hown' hgrow
          go_wp2_with (fail)
          go_roundw
          case rel =>
            refine ⟨k + 1, R', rfl, by omega, by omega, by omega, ?_, ?_, ?_⟩
            · show _ = _; rw [HRr.out, HQ.out.2.2]
            · rw [flat_take L k hlt, ← HQ.out.1, ← HQ.out.2.1]; exact HO.out.1
            · exact (hB.alloc (by omega) _).grown HO.out.2 (by simp; omega) (fun b hb => (hown.lt b hb).1)
          case measure => simp [intOf]; rw [HRr.out]; have := HM.out; omega
    · obtain rfl : k = L.length := by omega
      obtain rfl : R = 1 := by have := HR.out; simp [M.prodP] at this; omega
      go_wp2_with (fail)
      go_ret
      rw [List.take_length] at hown
      exact ⟨⟨_, rfl, hown⟩, hB⟩

end Go.Proofs.YtbehihanhfmmhaaGreat

namespace Go.Proofs.YtbehihanhfmmhaaGreat
open Go.RowKit

theorem quietw {P : Program} {f : FuncId} {args : Array Value} {w : World} {v : Value} (h : Calls P f args w fun e w' => e = .returned v ∧ w = w') : Calls P f args w fun e w' => e = .returned v ∧ w' = w :=
  h.mono fun _ _ ⟨he, hw⟩ => ⟨he, hw.symm⟩

/-- A call that leaves the world alone, inside a region that draws, behind other draws. -/
theorem still_more {P : Program} {f : FuncId} {args : Array Value} {v : Value} {w0 : World} (a n : Nat) (c : ∀ W : World, Calls P f args W fun e w' => e = .returned v ∧ W = w') :
    Calls P f args (w0.drewN (a + n)) fun e w' => e = .returned v ∧ ∃ m, w' = w0.drewN (a + m) :=
  (c _).mono fun _ _ ⟨he, hw⟩ => ⟨he, n, hw.symm⟩

end Go.Proofs.YtbehihanhfmmhaaGreat
namespace Go.Proofs.YtbehihanhfmmhaaGreat
open Go.RowKit

def IsRest (a m : Int) : Prop := 0 ≤ a ∧ a < m ∧ m ≤ 2147483647

set_option maxHeartbeats 400000 in
theorem Inv_ok (a m i : Int) (w : World) (ha : 0 ≤ a) (ham : a < m) (hm : m ≤ 2147483647) (hi0 : 0 ≤ i) (him : i < m) (hi : Hid (a * i % m = 1 % m)) :
    Calls Tryz.prog 59 #[.int .i64 a, .int .i64 m] w fun x w' => x = .returned (.tuple #[.int .i64 i, .int .i64 0]) ∧ ∃ n, w' = w.drewN n := by
  have hg1 : (gcdI a m != 1) = false := by simp [gcdI, M.gcd_of_inv ha ham hi0 hi.out]
  go_enter Tryz.func59, Tryz.ntmps59
  go_wp2_with (first
    | (go_at_call 75; refine (isRest_yes _ _ _ (by omega) (by omega) (by omega)).mono ?_; rintro e w' ⟨rfl, rfl⟩)
    | (go_at_call 76; refine (gcd_any _ _ _ (by omega) (by omega) (by omega) (by omega)).mono ?_; rintro e w' ⟨rfl, n, rfl⟩)
    | (go_at_call 77; refine (invert_any _ _ i _ (by omega) (by omega) (by omega) hi0 him hi).mono ?_; rintro e w' ⟨rfl, rfl⟩))
  go_ret2
  exact ⟨rfl, _, rfl⟩

set_option maxHeartbeats 400000 in
theorem Inv_none (a m : Int) (w : World) (ha : 0 ≤ a) (ham : a < m) (hm : m ≤ 2147483647) (hg1 : (gcdI a m != 1) = true) :
    Calls Tryz.prog 59 #[.int .i64 a, .int .i64 m] w fun x w' => x = .returned (.tuple #[.int .i64 0, .int .i64 6]) ∧ ∃ n, w' = w.drewN n := by
  go_enter Tryz.func59, Tryz.ntmps59
  go_wp2_with (first
    | (go_at_call 75; refine (isRest_yes _ _ _ (by omega) (by omega) (by omega)).mono ?_; rintro e w' ⟨rfl, rfl⟩)
    | (go_at_call 76; refine (gcd_any _ _ _ (by omega) (by omega) (by omega) (by omega)).mono ?_; rintro e w' ⟨rfl, n, rfl⟩))
  go_ret2
  exact ⟨rfl, _, rfl⟩

set_option maxHeartbeats 400000 in
theorem Inv_arg (a m : Int) (w : World) (h : Hid (¬ IsRest a m)) :
    Calls Tryz.prog 59 #[.int .i64 a, .int .i64 m] w fun x w' => x = .returned (.tuple #[.int .i64 0, .int .i64 2]) ∧ w = w' := by
  go_enter Tryz.func59, Tryz.ntmps59
  go_wp2_with (first
    | (go_at_call 75; refine (isRest_no _ _ _ h.out).mono ?_; rintro e w' ⟨rfl, rfl⟩))
  go_ret2
  exact ⟨rfl, rfl⟩

end Go.Proofs.YtbehihanhfmmhaaGreat
namespace Go.Proofs.YtbehihanhfmmhaaGreat.Q

/-- How many numbers are left without the zeros at the end. -/
def trimLen : List Nat → Nat
  | [] => 0
  | a :: l => if trimLen l = 0 then (if a = 0 then 0 else 1) else trimLen l + 1

def trim (f : List Nat) : List Nat := f.take (trimLen f)

theorem trimLen_le : ∀ f : List Nat, trimLen f ≤ f.length
  | [] => Nat.le_refl _
  | a :: l => by
    have := trimLen_le l
    rw [trimLen, List.length_cons]
    split
    · split <;> omega
    · omega

theorem trim_length (f : List Nat) : (trim f).length = trimLen f := by
  rw [trim, List.length_take]; have := trimLen_le f; omega

theorem trimLen_zero : ∀ (f : List Nat) (j : Nat), trimLen f ≤ j → f.getD j 0 = 0
  | [], j, _ => by simp
  | a :: l, j, h => by
    rw [trimLen] at h
    have ih := trimLen_zero l
    split at h
    · next h0 =>
      cases j with
      | zero => split at h <;> simp_all
      | succ j => simp only [List.getD_cons_succ]; exact ih j (by omega)
    · cases j with
      | zero => omega
      | succ j => simp only [List.getD_cons_succ]; exact ih j (by omega)

theorem trimLen_last : ∀ (f : List Nat), 0 < trimLen f → f.getD (trimLen f - 1) 0 ≠ 0
  | [], h => by simp [trimLen] at h
  | a :: l, h => by
    have ih := trimLen_last l
    rw [trimLen] at h ⊢
    split
    · next h0 =>
      rw [if_pos h0] at h
      split
      · next h1 => simp [h1] at h
      · next h1 => simpa using h1
    · next h0 =>
      obtain ⟨k, hk⟩ : ∃ k, trimLen l = k + 1 := ⟨trimLen l - 1, by omega⟩
      rw [hk] at ih ⊢
      simp only [Nat.add_sub_cancel, List.getD_cons_succ] at ih ⊢
      exact ih (by omega)

/-- Where the loop that trims stops. -/
theorem trimLen_eq {f : List Nat} {n : Nat} (hz : ∀ j, n ≤ j → f.getD j 0 = 0) (hn : n = 0 ∨ f.getD (n - 1) 0 ≠ 0) : trimLen f = n := by
  rcases Nat.lt_trichotomy (trimLen f) n with h | h | h
  · rcases hn with h0 | h0
    · omega
    · exact absurd (trimLen_zero f (n - 1) (by omega)) h0
  · exact h
  · exact absurd (hz (trimLen f - 1) (by omega)) (trimLen_last f (by omega))

/-- Lists joined number by number, zero standing for what a list lacks. -/
def comb (J : Nat → Nat → Nat) (f g : List Nat) : List Nat := (List.range (max f.length g.length)).map fun i => J (f.getD i 0) (g.getD i 0)

theorem comb_length (J : Nat → Nat → Nat) (f g : List Nat) : (comb J f g).length = max f.length g.length := by simp [comb]
theorem comb_get (J : Nat → Nat → Nat) (f g : List Nat) (i : Nat) (h : i < (comb J f g).length) : (comb J f g)[i] = J (f.getD i 0) (g.getD i 0) := by simp [comb]

def sumP (p : Nat) (f g : List Nat) : List Nat := trim (comb (fun a b => (a + b) % p) f g)
def difP (p : Nat) (f g : List Nat) : List Nat := trim (comb (fun a b => (a + p - b) % p) f g)

/-- The terms of the product's coefficient m that the first i coefficients of f make. -/
def conv (f g : List Nat) (m : Nat) : Nat → Nat
  | 0 => 0
  | i + 1 => conv f g m i + if i ≤ m then f.getD i 0 * g.getD (m - i) 0 else 0

def prodP' (p : Nat) (f g : List Nat) : List Nat :=
  if f.length = 0 ∨ g.length = 0 then [] else (List.range (f.length + g.length - 1)).map fun m => conv f g m f.length % p

theorem prod_length {p : Nat} {f g : List Nat} (hf : f.length ≠ 0) (hg : g.length ≠ 0) : (prodP' p f g).length = f.length + g.length - 1 := by
  rw [prodP', if_neg (by omega)]; simp
theorem prod_nil {p : Nat} {f g : List Nat} (h : f.length = 0 ∨ g.length = 0) : prodP' p f g = [] := by rw [prodP', if_pos h]

/-- rest - c g, in place from i on. -/
def takeAway (p c i : Nat) (g rest : List Nat) : List Nat := rest.mapIdx fun k x => if i ≤ k ∧ k < i + g.length then (x + (p - c) * g.getD (k - i) 0) % p else x

theorem takeAway_length (p c i : Nat) (g rest : List Nat) : (takeAway p c i g rest).length = rest.length := by simp [takeAway]

/-- The rounds of the division: i of them are left. -/
def divLoop (p inv : Nat) (g : List Nat) : Nat → List Nat → List Nat → List Nat × List Nat
  | 0, rest, q => (rest, q)
  | i + 1, rest, q =>
    let c := rest.getD (i + (g.length - 1)) 0 * inv % p
    divLoop p inv g i (if c = 0 then rest else takeAway p c i g rest) (c :: q)

/-- The inverse, 0 where there is none. -/
def invM (p a : Nat) : Nat := ((List.range p).find? fun i => a * i % p == 1 % p).getD 0

def divP (p : Nat) (f g : List Nat) : List Nat × List Nat :=
  if f.length < g.length then ([], f)
  else
    let r := divLoop p (invM p (g.getD (g.length - 1) 0)) g (f.length - (g.length - 1)) f []
    (r.2, trim (r.1.take (g.length - 1)))

def remP (p : Nat) (f g : List Nat) : List Nat := (divP p f g).2

def monicC (p : Nat) (f : List Nat) : List Nat := if f.length = 0 then [] else [invM p (f.getD (f.length - 1) 0)]
def monicP (p : Nat) (f : List Nat) : List Nat := if f.length = 0 then [] else prodP' p f (monicC p f)

/-- The greatest common divisor, in at most n steps. -/
def gcdLoop (p : Nat) : Nat → List Nat → List Nat → Option (List Nat)
  | 0, _, _ => none
  | n + 1, f, g => if g.length = 0 then some (monicP p f) else gcdLoop p n g (remP p f g)

def valP (p : Nat) (f : List Nat) (x : Nat) : Nat := f.foldr (fun c v => (v * x + c) % p) 0

/-- The power modulo g, in at most n halvings. -/
def raiseLoop (p : Nat) (g : List Nat) : Nat → List Nat → List Nat → Nat → List Nat
  | 0, result, _, _ => result
  | n + 1, result, square, e =>
    if e = 0 then result
    else raiseLoop p g n (if e % 2 = 1 then remP p (prodP' p result square) g else result) (remP p (prodP' p square square) g) (e / 2)

def raiseP (p : Nat) (f : List Nat) (e : Nat) (g : List Nat) : List Nat := raiseLoop p g e [1] f e

def deriv (p : Nat) (f : List Nat) : List Nat := trim ((List.range (f.length - 1)).map fun i => (i + 1) * f.getD (i + 1) 0 % p)
def rootP (p : Nat) (f : List Nat) : List Nat := (List.range ((f.length - 1) / p + 1)).map fun i => f.getD (i * p) 0

/-- How often part divides f, and what is left: in at most n steps. -/
def takeOut (p : Nat) (part : List Nat) : Nat → Nat → List Nat → Option (Nat × List Nat)
  | 0, _, _ => none
  | n + 1, exp, f => let d := divP p f part; if d.2.length = 0 then takeOut p part n (exp + 1) d.1 else some (exp, f)

/-! ### Matrices -/
def firstRow (rows : List (List Nat)) (j i : Nat) : Nat → Nat
  | 0 => i
  | n + 1 => if (rows.getD i []).getD j 0 = 0 then firstRow rows j (i + 1) n else i

def swapRows (rows : List (List Nat)) (i d : Nat) : List (List Nat) := (rows.set i (rows.getD d [])).set d (rows.getD i [])

def clearCol (p : Nat) (rows : List (List Nat)) (row j : Nat) : List (List Nat) :=
  let r := prodP' p (rows.getD row []) [invM p ((rows.getD row []).getD j 0)]
  (rows.set row r).mapIdx fun i x => let times := p - x.getD j 0; if i ≠ row ∧ times < p then comb (fun a b => (a + times * b) % p) x r else x

def redLoop (p n : Nat) : Nat → Nat → List (List Nat) → List Int → List (List Nat) × List Int
  | 0, _, rows, piv => (rows, piv)
  | k + 1, done, rows, piv =>
    let j := n - (k + 1)
    let i := firstRow rows j done (n - done)
    if i = n then redLoop p n k done rows piv
    else redLoop p n k (done + 1) (clearCol p (swapRows rows i done) done j) (piv.set j (done : Int))

def reducedP (p : Nat) (m : List (List Nat)) : List (List Nat) × List Int := redLoop p m.length m.length 0 m (List.replicate m.length (-1))

def column (p n j : Nat) (rows : List (List Nat)) (piv : List Int) : List Nat :=
  (List.range n).map fun i => let r := piv.getD i (-1); if 0 ≤ r then (p - (rows.getD r.toNat []).getD j 0) % p else if i = j then 1 else 0

def kernelP (p : Nat) (m : List (List Nat)) : List (List Nat) :=
  let r := reducedP p m
  ((List.range m.length).filter fun j => decide (r.2.getD j (-1) < 0)).map fun j => trim (column p m.length j r.1 r.2)

def gcdP (p : Nat) (f g : List Nat) : List Nat := (gcdLoop p (g.length + 1) f g).getD []

/-- The powers of step modulo f. -/
def powSeq (p : Nat) (f step : List Nat) : Nat → List Nat
  | 0 => [1]
  | j + 1 => remP p (prodP' p (powSeq p f step j) step) f

def fixedCell (p : Nat) (f step : List Nat) (i j : Nat) : Nat :=
  if i = j then ((powSeq p f step j).getD i 0 + p - 1) % p else (powSeq p f step j).getD i 0

def fixedMat (p : Nat) (f : List Nat) : List (List Nat) :=
  (List.range (f.length - 1)).map fun i => (List.range (f.length - 1)).map fun j => fixedCell p f (raiseP p [0, 1] p f) i j

def fixedP (p : Nat) (f : List Nat) : List (List Nat) := kernelP p (fixedMat p f)

def irredP (p : Nat) (f : List Nat) : Bool :=
  if f.length < 2 ∨ 1 < (gcdP p f (deriv p f)).length then false else (fixedP p f).length == 1

def splitOne (p : Nat) (v part : List Nat) : List (List Nat) :=
  let c := gcdP p part v
  if 1 < c.length ∧ c.length < part.length then [c, (divP p part c).1] else [part]

def splitBy (p : Nat) (parts : List (List Nat)) (v : List Nat) : List (List Nat) := parts.flatMap (splitOne p v)

/-- The rounds over s, from s on, n of them; true: the search is over. -/
def splitS (p nb : Nat) (v : List Nat) : Nat → Nat → List (List Nat) → Bool × List (List Nat)
  | 0, _, parts => (false, parts)
  | n + 1, s, parts => if parts.length = nb then (true, parts) else splitS p nb v n (s + 1) (splitBy p parts (difP p v (trim [s])))

def splitV (p nb : Nat) : List (List Nat) → List (List Nat) → List (List Nat)
  | [], parts => parts
  | v :: vs, parts => let r := splitS p nb v p 0 parts; if r.1 then r.2 else splitV p nb vs r.2

def splitP (p : Nat) (f : List Nat) : List (List Nat) := splitV p (fixedP p f).length ((fixedP p f).drop 1) [f]

/-- The parts taken out, each with its exponent. -/
def takeAll (p times : Nat) : List (List Nat) → List Nat → Option (List (List Nat × Nat) × List Nat)
  | [], f => some ([], f)
  | part :: parts, f =>
    match takeOut p part (f.length + 1) 0 f with
    | none => none
    | some (e, f') => match takeAll p times parts f' with
      | none => none
      | some (l, f'') => some ((part, e * times) :: l, f'')

/-- The factors, not yet in order, in at most n rounds. -/
def factLoop (p : Nat) : Nat → Nat → List Nat → Option (List (List Nat × Nat))
  | 0, _, _ => none
  | n + 1, times, f =>
    if f.length ≤ 1 then some []
    else if (deriv p f).length = 0 then factLoop p n (times * p) (rootP p f)
    else match takeAll p times (splitP p (divP p f (gcdP p f (deriv p f))).1) f with
      | none => none
      | some (l, f') => match factLoop p n times f' with
        | none => none
        | some l' => some (l ++ l')

/-- The order of polynomials: the length first, then the numbers, the last one first. -/
def ordP : List Nat → List Nat → Int
  | [], [] => 0
  | [], _ :: _ => -1
  | _ :: _, [] => 1
  | a :: f, b :: g => let c := ordP f g; if c = 0 then (if a < b then -1 else if b < a then 1 else 0) else c

def countP (p : Nat) : Nat → Nat → Int
  | 0, _ => 0
  | k + 1, n => ((List.range (n - 1)).foldl (fun left d => if n % (d + 1) = 0 then left - ((d + 1 : Nat) : Int) * countP p k (d + 1) else left) ((p ^ n : Nat) : Int)) / n

/-- The next polynomial of its degree. -/
def advanceP (p : Nat) : List Nat → List Nat
  | [] => []
  | a :: f => if a = p - 1 then 0 :: advanceP p f else (a + 1) :: f

def firstLoop (p : Nat) : Nat → List Nat → Option (List Nat)
  | 0, _ => none
  | n + 1, f => if irredP p f then some f else firstLoop p n (advanceP p f)

/-! ### The few values that each law asks for -/
theorem awake_prod : prodP' 5 [2, 1] [3, 1] = [1, 0, 1] := by decide +kernel
theorem awake_fact : factLoop 5 3 1 [1, 0, 1] = some [([3, 1], 1), ([2, 1], 1)] ∨ factLoop 5 3 1 [1, 0, 1] = some [([2, 1], 1), ([3, 1], 1)] := by decide +kernel
theorem awake_first : firstLoop 2 9 [0, 0, 0, 1] = some [1, 1, 0, 1] := by decide +kernel
theorem awake_count : countP 2 4 3 = 2 := by decide +kernel

end Go.Proofs.YtbehihanhfmmhaaGreat.Q

namespace Go.Proofs.YtbehihanhfmmhaaGreat.Q

def sm : Nat → (Nat → Int) → Int
  | 0, _ => 0
  | n + 1, F => sm n F + F n

theorem sm_congr {n : Nat} {F G : Nat → Int} (h : ∀ i, i < n → F i = G i) : sm n F = sm n G := by
  induction n with
  | zero => rfl
  | succ n ih => rw [sm, sm, ih fun i hi => h i (by omega), h n (by omega)]

theorem sm_zero {n : Nat} {F : Nat → Int} (h : ∀ i, i < n → F i = 0) : sm n F = 0 := by
  induction n with
  | zero => rfl
  | succ n ih => rw [sm, ih fun i hi => h i (by omega), h n (by omega)]; rfl

theorem sm_add (n : Nat) (F G : Nat → Int) : sm n (fun i => F i + G i) = sm n F + sm n G := by
  induction n with
  | zero => rfl
  | succ n ih => rw [sm, sm, sm, ih]; omega

theorem sm_mul (n : Nat) (c : Int) (F : Nat → Int) : sm n (fun i => c * F i) = c * sm n F := by
  induction n with
  | zero => simp [sm]
  | succ n ih => rw [sm, sm, ih, Int.mul_add]

theorem sm_mul' (n : Nat) (c : Int) (F : Nat → Int) : sm n (fun i => F i * c) = sm n F * c := by
  induction n with
  | zero => simp [sm]
  | succ n ih => rw [sm, sm, ih, Int.add_mul]

theorem sm_head (n : Nat) (F : Nat → Int) : sm (n + 1) F = F 0 + sm n fun i => F (i + 1) := by
  induction n with
  | zero => simp [sm]
  | succ n ih => rw [sm, ih, sm]; omega

theorem sm_rev (n : Nat) (F : Nat → Int) : sm n F = sm n fun i => F (n - 1 - i) := by
  induction n with
  | zero => rfl
  | succ n ih =>
    rw [sm_head n fun i => F (n + 1 - 1 - i), sm, ih]
    have : sm n (fun i => F (n - 1 - i)) = sm n fun i => F (n + 1 - 1 - (i + 1)) := sm_congr fun i _ => by congr 1; omega
    rw [this]
    simp only [Nat.add_sub_cancel, Nat.sub_zero]
    omega

theorem sm_more {n m : Nat} {F : Nat → Int} (h : n ≤ m) (hz : ∀ i, n ≤ i → i < m → F i = 0) : sm m F = sm n F := by
  induction m with
  | zero => obtain rfl : n = 0 := by omega
            rfl
  | succ m ih =>
    rcases Nat.lt_or_ge m n with h1 | h1
    · obtain rfl : n = m + 1 := by omega
      rfl
    · rw [sm, ih h1 fun i h2 h3 => hz i h2 (by omega), hz m h1 (by omega)]; omega

theorem sm_tri (n : Nat) (T : Nat → Nat → Int) : sm n (fun i => sm (i + 1) fun j => T i j) = sm n fun j => sm (n - j) fun k => T (j + k) j := by
  induction n with
  | zero => rfl
  | succ n ih =>
    rw [sm, ih]
    have h1 : sm (n + 1) (fun j => sm (n + 1 - j) fun k => T (j + k) j) = sm (n + 1) fun j => (sm (n - j) fun k => T (j + k) j) + T n j := by
      refine sm_congr fun j hj => ?_
      rw [show n + 1 - j = (n - j) + 1 by omega, sm, show j + (n - j) = n by omega]
    rw [h1, sm_add (n + 1) (fun j => sm (n - j) fun k => T (j + k) j) (fun j => T n j)]
    have h2 : sm (n + 1) (fun j => sm (n - j) fun k => T (j + k) j) = sm n (fun j => sm (n - j) fun k => T (j + k) j) := by
      rw [sm, Nat.sub_self]; simp [sm]
    rw [h2]

/-- The product of sequences. -/
def cau (F G : Nat → Int) (m : Nat) : Int := sm (m + 1) fun i => F i * G (m - i)

theorem cau_comm (F G : Nat → Int) : cau F G = cau G F := by
  funext m
  unfold cau
  rw [sm_rev]
  refine sm_congr fun i hi => ?_
  rw [show m - (m + 1 - 1 - i) = i by omega, show m + 1 - 1 - i = m - i by omega, Int.mul_comm]

theorem cau_assoc (F G H : Nat → Int) : cau (cau F G) H = cau F (cau G H) := by
  funext m
  unfold cau
  have h1 : sm (m + 1) (fun i => (sm (i + 1) fun j => F j * G (i - j)) * H (m - i)) = sm (m + 1) fun i => sm (i + 1) fun j => F j * G (i - j) * H (m - i) :=
    sm_congr fun i _ => (sm_mul' _ _ _).symm
  rw [h1, sm_tri (m + 1) fun i j => F j * G (i - j) * H (m - i)]
  refine sm_congr fun j hj => ?_
  rw [show m + 1 - j = m - j + 1 by omega, ← sm_mul]
  refine sm_congr fun k hk => ?_
  rw [show j + k - j = k by omega, show m - (j + k) = m - j - k by omega, Int.mul_assoc]

theorem cau_add (F G H : Nat → Int) : cau F (fun i => G i + H i) = fun i => cau F G i + cau F H i := by
  funext m
  unfold cau
  rw [← sm_add]
  exact sm_congr fun i _ => Int.mul_add ..

theorem cau_scale (F G : Nat → Int) (c : Int) : cau F (fun i => c * G i) = fun i => c * cau F G i := by
  funext m
  unfold cau
  rw [← sm_mul]
  exact sm_congr fun i _ => by rw [← Int.mul_assoc, Int.mul_comm (F i), Int.mul_assoc]

/-- Equal but for multiples of p. -/
def Eqv (p : Nat) (F G : Nat → Int) : Prop := ∀ i, ∃ k : Int, F i = G i + p * k

theorem Eqv.refl (p : Nat) (F : Nat → Int) : Eqv p F F := fun i => ⟨0, by simp⟩
theorem Eqv.symm {p : Nat} {F G : Nat → Int} (h : Eqv p F G) : Eqv p G F := fun i => by
  obtain ⟨k, hk⟩ := h i; exact ⟨-k, by rw [hk, Int.mul_neg]; omega⟩
theorem Eqv.trans {p : Nat} {F G H : Nat → Int} (h : Eqv p F G) (h' : Eqv p G H) : Eqv p F H := fun i => by
  obtain ⟨k, hk⟩ := h i; obtain ⟨l, hl⟩ := h' i; exact ⟨l + k, by rw [hk, hl, Int.mul_add]; omega⟩
theorem Eqv.of_eq {p : Nat} {F G : Nat → Int} (h : F = G) : Eqv p F G := h ▸ Eqv.refl p F
theorem Eqv.add {p : Nat} {F G F' G' : Nat → Int} (h : Eqv p F F') (h' : Eqv p G G') : Eqv p (fun i => F i + G i) (fun i => F' i + G' i) := fun i => by
  obtain ⟨k, hk⟩ := h i; obtain ⟨l, hl⟩ := h' i; exact ⟨k + l, by simp only [hk, hl, Int.mul_add]; omega⟩
theorem Eqv.scale {p : Nat} {F F' : Nat → Int} (h : Eqv p F F') (c : Int) : Eqv p (fun i => c * F i) (fun i => c * F' i) := fun i => by
  obtain ⟨k, hk⟩ := h i; exact ⟨c * k, by simp only [hk, Int.mul_add]; rw [← Int.mul_assoc, ← Int.mul_assoc, Int.mul_comm c p]⟩
theorem cau_eqv_right {p : Nat} {F G G' : Nat → Int} (h : Eqv p G G') : Eqv p (cau F G) (cau F G') := by
  have hk : ∀ i, ∃ k : Int, G i = G' i + p * k := h
  let K := fun i => Classical.choose (hk i)
  have hK : G = fun i => G' i + (p : Int) * K i := by funext i; exact Classical.choose_spec (hk i)
  intro m
  refine ⟨cau F K m, ?_⟩
  have h1 := congrFun (cau_add F G' fun i => (p : Int) * K i) m
  have h2 := congrFun (cau_scale F K (p : Int)) m
  rw [hK, h1, h2]
theorem cau_eqv {p : Nat} {F F' G G' : Nat → Int} (h : Eqv p F F') (h' : Eqv p G G') : Eqv p (cau F G) (cau F' G') := by
  refine (cau_eqv_right h').trans ?_
  rw [cau_comm F, cau_comm F']
  exact cau_eqv_right h

end Go.Proofs.YtbehihanhfmmhaaGreat.Q

namespace Go.Proofs.YtbehihanhfmmhaaGreat.Q

/-- The coefficients as a sequence. -/
def cf (f : List Nat) (i : Nat) : Int := ((f.getD i 0 : Nat) : Int)

theorem cf_nonneg (f : List Nat) (i : Nat) : 0 ≤ cf f i := Int.natCast_nonneg _
theorem cf_out {f : List Nat} {i : Nat} (h : f.length ≤ i) : cf f i = 0 := by simp [cf, List.getD, h]
theorem getD_out {f : List Nat} {i : Nat} (h : f.length ≤ i) : f.getD i 0 = 0 := by simp [List.getD, h]
theorem getD_get {f : List Nat} {i : Nat} (h : i < f.length) : f.getD i 0 = f[i] := by simp [List.getD, h]

/-- All numbers are below p. -/
def Red (p : Nat) (f : List Nat) : Prop := ∀ x ∈ f, x < p

/-- A polynomial over p: reduced, and the last number is not 0. -/
structure Pol (p : Nat) (f : List Nat) : Prop where
  red : Red p f
  last : trimLen f = f.length

theorem Red.getD {p : Nat} {f : List Nat} (h : Red p f) (hp : 0 < p) (i : Nat) : f.getD i 0 < p := by
  rcases Nat.lt_or_ge i f.length with h1 | h1
  · rw [getD_get h1]; exact h _ (List.getElem_mem h1)
  · rw [getD_out h1]; exact hp

theorem Red.cf {p : Nat} {f : List Nat} (h : Red p f) (hp : 0 < p) (i : Nat) : cf f i < p := by
  have := h.getD hp i; unfold Q.cf; omega

theorem Pol.ne {p : Nat} {f : List Nat} (h : Pol p f) (h0 : f.length ≠ 0) : f.getD (f.length - 1) 0 ≠ 0 := by
  have := trimLen_last f (by rw [h.last]; omega)
  rwa [h.last] at this

theorem Pol.nil (p : Nat) : Pol p [] := ⟨by intro x hx; simp at hx, rfl⟩

theorem trimLen_of {f : List Nat} (h : f.length = 0 ∨ f.getD (f.length - 1) 0 ≠ 0) : trimLen f = f.length :=
  trimLen_eq (fun _ hj => getD_out hj) h

theorem pol_of {p : Nat} {f : List Nat} (h : Red p f) (h2 : f.length = 0 ∨ f.getD (f.length - 1) 0 ≠ 0) : Pol p f := ⟨h, trimLen_of h2⟩

theorem getD_take (f : List Nat) (n i : Nat) : (f.take n).getD i 0 = if i < n then f.getD i 0 else 0 := by
  simp only [List.getD_eq_getElem?_getD, List.getElem?_take]
  split <;> simp

theorem trim_getD (f : List Nat) (i : Nat) : (trim f).getD i 0 = f.getD i 0 := by
  rw [trim, getD_take]
  split
  · rfl
  · next h => rw [trimLen_zero f i (by omega)]

theorem cf_trim (f : List Nat) : cf (trim f) = cf f := by funext i; simp only [cf, trim_getD]

theorem Red.take {p : Nat} {f : List Nat} (h : Red p f) (n : Nat) : Red p (f.take n) := fun x hx => h x (List.mem_of_mem_take hx)

theorem Red.trim {p : Nat} {f : List Nat} (h : Red p f) : Pol p (trim f) := by
  refine pol_of (h.take _) ?_
  rw [trim_length]
  rcases Nat.eq_zero_or_pos (trimLen f) with h0 | h0
  · exact .inl h0
  · right
    rw [trim_getD]
    exact trimLen_last f h0

theorem trim_of_pol {p : Nat} {f : List Nat} (h : Pol p f) : trim f = f := by rw [Q.trim, h.last, List.take_length]

theorem ext_getD {f g : List Nat} (h : f.length = g.length) (hi : ∀ i, i < f.length → f.getD i 0 = g.getD i 0) : f = g := by
  apply List.ext_getElem h
  intro i h1 h2
  have := hi i h1
  rwa [getD_get h1, getD_get h2] at this

/-- Polynomials with the same coefficients are the same. -/
theorem Pol.ext {p : Nat} {f g : List Nat} (hf : Pol p f) (hg : Pol p g) (h : ∀ i, f.getD i 0 = g.getD i 0) : f = g := by
  have h1 : trimLen f = trimLen g := by
    refine (trimLen_eq (n := trimLen g) (fun j hj => by rw [h]; exact trimLen_zero g j hj) ?_)
    rcases Nat.eq_zero_or_pos (trimLen g) with h0 | h0
    · exact .inl h0
    · right; rw [h]; exact trimLen_last g h0
  exact ext_getD (by rw [← hf.last, ← hg.last, h1]) fun i _ => h i

theorem natmod_eqv (p : Nat) (a : Nat) : ∃ k : Int, ((a % p : Nat) : Int) = (a : Int) + p * k := by
  refine ⟨-((a / p : Nat) : Int), ?_⟩
  have := Nat.mod_add_div a p
  rw [Int.mul_neg]
  have h2 : (a : Int) = ((a % p : Nat) : Int) + (p : Int) * ((a / p : Nat) : Int) := by exact_mod_cast this.symm
  omega

/-- Reduced numbers that are equal but for a multiple of p are equal. -/
theorem eq_of_eqv {p a b : Nat} (ha : a < p) (hb : b < p) (h : ∃ k : Int, (a : Int) = b + p * k) : a = b := by
  obtain ⟨k, hk⟩ := h
  rcases Int.lt_trichotomy k 0 with h0 | h0 | h0
  · have : (p : Int) * k ≤ (p : Int) * (-1) := Int.mul_le_mul_of_nonneg_left (by omega) (by omega)
    omega
  · subst h0; omega
  · have : (p : Int) * 1 ≤ (p : Int) * k := Int.mul_le_mul_of_nonneg_left (by omega) (by omega)
    omega

theorem Pol.ext_eqv {p : Nat} {f g : List Nat} (hp : 0 < p) (hf : Pol p f) (hg : Pol p g) (h : Eqv p (cf f) (cf g)) : f = g :=
  hf.ext hg fun i => eq_of_eqv (hf.red.getD hp i) (hg.red.getD hp i) (h i)

/-! ### Sums and differences -/
theorem comb_getD (J : Nat → Nat → Nat) (hJ : J 0 0 = 0) (f g : List Nat) (i : Nat) : (comb J f g).getD i 0 = J (f.getD i 0) (g.getD i 0) := by
  rcases Nat.lt_or_ge i (comb J f g).length with h | h
  · rw [getD_get h, comb_get]
  · rw [getD_out h, getD_out, getD_out, hJ]
    · rw [comb_length] at h; omega
    · rw [comb_length] at h; omega

theorem comb_red {p : Nat} {J : Nat → Nat → Nat} (h : ∀ a b, J a b < p) (f g : List Nat) : Red p (comb J f g) := by
  intro x hx
  obtain ⟨i, _, rfl⟩ := List.mem_map.1 hx
  exact h _ _

theorem pol_sum {p : Nat} (hp : 0 < p) (f g : List Nat) : Pol p (sumP p f g) := (comb_red (fun _ _ => Nat.mod_lt _ hp) f g).trim
theorem pol_dif {p : Nat} (hp : 0 < p) (f g : List Nat) : Pol p (difP p f g) := (comb_red (fun _ _ => Nat.mod_lt _ hp) f g).trim

theorem sum_getD (p : Nat) (f g : List Nat) (i : Nat) : (sumP p f g).getD i 0 = (f.getD i 0 + g.getD i 0) % p := by
  rw [sumP, trim_getD, comb_getD _ (by simp)]

theorem dif_getD (p : Nat) (f g : List Nat) (i : Nat) : (difP p f g).getD i 0 = (f.getD i 0 + p - g.getD i 0) % p := by
  rw [difP, trim_getD, comb_getD _ (by simp)]

theorem sum_eqv (p : Nat) (f g : List Nat) : Eqv p (cf (sumP p f g)) fun i => cf f i + cf g i := fun i => by
  obtain ⟨k, hk⟩ := natmod_eqv p (f.getD i 0 + g.getD i 0)
  exact ⟨k, by simp only [cf, sum_getD]; rw [hk]; omega⟩

theorem dif_eqv {p : Nat} (hp : 0 < p) (f : List Nat) {g : List Nat} (hg : Red p g) : Eqv p (cf (difP p f g)) fun i => cf f i + (-1) * cf g i := fun i => by
  obtain ⟨k, hk⟩ := natmod_eqv p (f.getD i 0 + p - g.getD i 0)
  have := hg.getD hp i
  refine ⟨k + 1, ?_⟩
  simp only [cf, dif_getD]
  rw [hk, Int.mul_add]
  omega

/-! ### Products -/
theorem conv_sm (f g : List Nat) (m n : Nat) : ((conv f g m n : Nat) : Int) = sm n fun i => if i ≤ m then cf f i * cf g (m - i) else 0 := by
  induction n with
  | zero => rfl
  | succ n ih =>
    rw [conv, sm, ← ih]
    simp only [cf]
    split <;> simp

theorem conv_cau (f g : List Nat) (m : Nat) : ((conv f g m f.length : Nat) : Int) = cau (cf f) (cf g) m := by
  rw [conv_sm]
  have h1 : sm (max f.length (m + 1)) (fun i => if i ≤ m then cf f i * cf g (m - i) else 0) = sm f.length fun i => if i ≤ m then cf f i * cf g (m - i) else 0 :=
    sm_more (by omega) fun i h1 h2 => by rw [cf_out h1]; simp
  have h2 : sm (max f.length (m + 1)) (fun i => if i ≤ m then cf f i * cf g (m - i) else 0) = sm (m + 1) fun i => if i ≤ m then cf f i * cf g (m - i) else 0 :=
    sm_more (by omega) fun i h1 h2 => by rw [if_neg (by omega)]
  rw [← h1, h2]
  exact sm_congr fun i hi => by rw [if_pos (by omega)]

theorem cau_out {f g : List Nat} {m : Nat} (h : f.length = 0 ∨ g.length = 0 ∨ f.length + g.length - 1 ≤ m) : cau (cf f) (cf g) m = 0 := by
  refine sm_zero fun i hi => ?_
  rcases Nat.lt_or_ge i f.length with h1 | h1
  · rw [cf_out (f := g) (by omega)]; simp
  · rw [cf_out h1]; simp

theorem prod_getD (p : Nat) (f g : List Nat) (m : Nat) : (((prodP' p f g).getD m 0 : Nat) : Int) = (cau (cf f) (cf g) m) % p := by
  by_cases h0 : f.length = 0 ∨ g.length = 0
  · rw [prod_nil h0, cau_out (by omega)]; simp
  · rcases Nat.lt_or_ge m (f.length + g.length - 1) with h1 | h1
    · have hl : (prodP' p f g).length = f.length + g.length - 1 := prod_length (by omega) (by omega)
      rw [getD_get (by omega)]
      have : (prodP' p f g)[m]'(by omega) = conv f g m f.length % p := by
        have e : prodP' p f g = (List.range (f.length + g.length - 1)).map fun m => conv f g m f.length % p := by rw [prodP', if_neg h0]
        simp only [e, List.getElem_map, List.getElem_range]
      rw [this, ← conv_cau]
      rfl
    · rw [getD_out (by rw [prod_length (by omega) (by omega)]; exact h1), cau_out (by omega)]; simp

theorem prod_eqv (p : Nat) (f g : List Nat) : Eqv p (cf (prodP' p f g)) (cau (cf f) (cf g)) := fun i => by
  refine ⟨-(cau (cf f) (cf g) i / p), ?_⟩
  simp only [cf]
  rw [prod_getD]
  have := Int.emod_add_mul_ediv (cau (cf f) (cf g) i) p
  rw [Int.mul_neg]
  omega

theorem red_prod {p : Nat} (hp : 0 < p) (f g : List Nat) : Red p (prodP' p f g) := by
  intro x hx
  by_cases h0 : f.length = 0 ∨ g.length = 0
  · rw [prod_nil h0] at hx; simp at hx
  · rw [prodP', if_neg h0] at hx
    obtain ⟨m, _, rfl⟩ := List.mem_map.1 hx
    exact Nat.mod_lt _ hp

/-- No two numbers below p but 0 have a product that p divides. -/
def Fld (p : Nat) : Prop := 2 ≤ p ∧ ∀ a b, a < p → b < p → a * b % p = 0 → a = 0 ∨ b = 0

theorem cau_top {f g : List Nat} (hf : f.length ≠ 0) (hg : g.length ≠ 0) : cau (cf f) (cf g) (f.length + g.length - 2) = cf f (f.length - 1) * cf g (g.length - 1) := by
  unfold cau
  obtain ⟨a, ha⟩ : ∃ a, f.length = a + 1 := ⟨f.length - 1, by omega⟩
  have h1 : sm (f.length + g.length - 2 + 1) (fun i => cf f i * cf g (f.length + g.length - 2 - i)) = sm (a + 1) fun i => cf f i * cf g (f.length + g.length - 2 - i) :=
    sm_more (by omega) fun i h1 h2 => by rw [cf_out (f := f) (by omega)]; simp
  rw [h1, sm, sm_zero fun i hi => by rw [cf_out (f := g) (by omega)]; simp]
  rw [ha, show a + 1 + g.length - 2 - a = g.length - 1 by omega]
  simp

theorem prod_last {p : Nat} (hF : Fld p) {f g : List Nat} (hf : Pol p f) (hg : Pol p g) : Pol p (prodP' p f g) := by
  have hp : 0 < p := by have := hF.1; omega
  refine pol_of (red_prod hp f g) ?_
  by_cases h0 : f.length = 0 ∨ g.length = 0
  · rw [prod_nil h0]; exact .inl rfl
  · right
    rw [prod_length (by omega) (by omega), show f.length + g.length - 1 - 1 = f.length + g.length - 2 by omega]
    intro h1
    have h2 := prod_getD p f g (f.length + g.length - 2)
    rw [h1, cau_top (by omega) (by omega)] at h2
    have h3 : f.getD (f.length - 1) 0 * g.getD (g.length - 1) 0 % p = 0 := by
      simp only [cf] at h2
      exact_mod_cast h2.symm
    rcases hF.2 _ _ (hf.red.getD hp _) (hg.red.getD hp _) h3 with h4 | h4
    · exact hf.ne (by omega) h4
    · exact hg.ne (by omega) h4

/-! ### The laws of the ring -/
variable {p : Nat}

theorem sum_comm (f g : List Nat) : sumP p f g = sumP p g f := by
  have : comb (fun a b => (a + b) % p) f g = comb (fun a b => (a + b) % p) g f := by
    unfold comb
    rw [Nat.max_comm]
    exact List.map_congr_left fun i _ => by show (_ + _) % p = _; rw [Nat.add_comm]
  rw [sumP, sumP, this]

theorem prod_comm' (f g : List Nat) : prodP' p f g = prodP' p g f := by
  refine ext_getD ?_ fun i _ => ?_
  · by_cases h0 : f.length = 0 ∨ g.length = 0
    · rw [prod_nil h0, prod_nil h0.symm]
    · rw [prod_length (by omega) (by omega), prod_length (by omega) (by omega)]; omega
  · have h1 := prod_getD p f g i
    have h2 := prod_getD p g f i
    rw [cau_comm] at h1
    omega

theorem prod_assoc (hF : Fld p) {f g h : List Nat} (hf : Pol p f) (hg : Pol p g) (hh : Pol p h) : prodP' p (prodP' p f g) h = prodP' p f (prodP' p g h) := by
  have hp : 0 < p := by have := hF.1; omega
  refine (prod_last hF (prod_last hF hf hg) hh).ext_eqv hp (prod_last hF hf (prod_last hF hg hh)) ?_
  refine (prod_eqv p _ _).trans ((cau_eqv (prod_eqv p f g) (Eqv.refl p _)).trans ?_)
  rw [cau_assoc]
  exact ((prod_eqv p _ _).trans (cau_eqv_right (prod_eqv p g h))).symm

theorem prod_sum (hF : Fld p) {f g h : List Nat} (hh : Pol p h) : prodP' p (sumP p f g) h = sumP p (prodP' p f h) (prodP' p g h) := by
  have hp : 0 < p := by have := hF.1; omega
  refine (prod_last hF (pol_sum hp f g) hh).ext_eqv hp (pol_sum hp _ _) ?_
  refine (prod_eqv p _ _).trans ((cau_eqv (sum_eqv p f g) (Eqv.refl p _)).trans ?_)
  rw [cau_comm, cau_add, cau_comm (cf h), cau_comm (cf h)]
  exact ((sum_eqv p _ _).trans ((prod_eqv p f h).add (prod_eqv p g h))).symm

end Go.Proofs.YtbehihanhfmmhaaGreat.Q

namespace Go.Proofs.YtbehihanhfmmhaaGreat.Q
open M (Pr not_dvd_of_lt exists_inv)

def stP (p : Nat) : Setoid (Nat → Int) := ⟨Eqv p, ⟨Eqv.refl p, Eqv.symm, Eqv.trans⟩⟩
def Px (p : Nat) : Type := Quotient (stP p)
def Px.of (p : Nat) (F : Nat → Int) : Px p := Quotient.mk (stP p) F

variable {p : Nat}

theorem Px.eq {F G : Nat → Int} (h : Eqv p F G) : Px.of p F = Px.of p G := Quotient.sound (s := stP p) h
theorem Px.eqv {F G : Nat → Int} (h : Px.of p F = Px.of p G) : Eqv p F G := Quotient.exact (s := stP p) h

instance : Add (Px p) := ⟨Quotient.lift₂ (s₁ := stP p) (s₂ := stP p) (fun F G => Px.of p fun i => F i + G i) fun _ _ _ _ h h' => Px.eq (Eqv.add h h')⟩
instance : Mul (Px p) := ⟨Quotient.lift₂ (s₁ := stP p) (s₂ := stP p) (fun F G => Px.of p (cau F G)) fun _ _ _ _ h h' => Px.eq (cau_eqv h h')⟩
instance : Neg (Px p) := ⟨Quotient.lift (s := stP p) (fun F => Px.of p fun i => (-1) * F i) fun _ _ h => Px.eq (Eqv.scale h _)⟩
instance : Zero (Px p) := ⟨Px.of p fun _ => 0⟩
instance : One (Px p) := ⟨Px.of p fun i => if i = 0 then 1 else 0⟩
instance : Sub (Px p) := ⟨fun a b => a + -b⟩

theorem Px.add_of (F G : Nat → Int) : Px.of p F + Px.of p G = Px.of p fun i => F i + G i := rfl
theorem Px.mul_of (F G : Nat → Int) : Px.of p F * Px.of p G = Px.of p (cau F G) := rfl
theorem Px.neg_of (F : Nat → Int) : -Px.of p F = Px.of p fun i => (-1) * F i := rfl
theorem Px.zero_of : (0 : Px p) = Px.of p fun _ => 0 := rfl
theorem Px.one_of : (1 : Px p) = Px.of p fun i => if i = 0 then 1 else 0 := rfl
theorem Px.sub_def (a b : Px p) : a - b = a + -b := rfl

theorem Px.ind (a : Px p) : ∃ F, a = Px.of p F := by
  obtain ⟨F, hF⟩ := Quotient.exists_rep a
  exact ⟨F, hF.symm⟩

theorem Px.add_comm (a b : Px p) : a + b = b + a := by
  obtain ⟨F, rfl⟩ := a.ind; obtain ⟨G, rfl⟩ := b.ind
  rw [add_of, add_of]; congr 1; funext i; exact Int.add_comm ..
theorem Px.add_assoc (a b c : Px p) : a + b + c = a + (b + c) := by
  obtain ⟨F, rfl⟩ := a.ind; obtain ⟨G, rfl⟩ := b.ind; obtain ⟨H, rfl⟩ := c.ind
  simp only [add_of]; congr 1; funext i; exact Int.add_assoc ..
theorem Px.mul_comm (a b : Px p) : a * b = b * a := by
  obtain ⟨F, rfl⟩ := a.ind; obtain ⟨G, rfl⟩ := b.ind
  rw [mul_of, mul_of, cau_comm]
theorem Px.mul_assoc (a b c : Px p) : a * b * c = a * (b * c) := by
  obtain ⟨F, rfl⟩ := a.ind; obtain ⟨G, rfl⟩ := b.ind; obtain ⟨H, rfl⟩ := c.ind
  simp only [mul_of, cau_assoc]
theorem Px.mul_add (a b c : Px p) : a * (b + c) = a * b + a * c := by
  obtain ⟨F, rfl⟩ := a.ind; obtain ⟨G, rfl⟩ := b.ind; obtain ⟨H, rfl⟩ := c.ind
  simp only [mul_of, add_of, cau_add]
theorem Px.add_mul (a b c : Px p) : (a + b) * c = a * c + b * c := by rw [mul_comm, mul_add, mul_comm c, mul_comm c]
theorem Px.zero_add (a : Px p) : 0 + a = a := by
  obtain ⟨F, rfl⟩ := a.ind
  rw [zero_of, add_of]; congr 1; funext i; exact Int.zero_add ..
theorem Px.add_zero (a : Px p) : a + 0 = a := by rw [add_comm, zero_add]
theorem Px.add_neg (a : Px p) : a + -a = 0 := by
  obtain ⟨F, rfl⟩ := a.ind
  rw [neg_of, add_of, zero_of]; congr 1; funext i; omega
theorem Px.neg_add (a : Px p) : -a + a = 0 := by rw [add_comm, add_neg]
theorem Px.one_mul (a : Px p) : 1 * a = a := by
  obtain ⟨F, rfl⟩ := a.ind
  rw [one_of, mul_of]; congr 1; funext m
  unfold cau
  rw [sm_head, sm_zero fun i _ => by simp]
  simp
theorem Px.mul_one (a : Px p) : a * 1 = a := by rw [mul_comm, one_mul]

instance : Std.Commutative (α := Px p) (· + ·) := ⟨Px.add_comm⟩
instance : Std.Associative (α := Px p) (· + ·) := ⟨Px.add_assoc⟩
instance : Std.Commutative (α := Px p) (· * ·) := ⟨Px.mul_comm⟩
instance : Std.Associative (α := Px p) (· * ·) := ⟨Px.mul_assoc⟩

theorem Px.add_cancel {a b c : Px p} (h : a + c = b + c) : a = b := by
  have := congrArg (· + -c) h
  simpa only [add_assoc, add_neg, add_zero] using this
theorem Px.zero_mul (a : Px p) : 0 * a = 0 := by
  apply add_cancel (c := 0 * a)
  rw [← add_mul, zero_add, zero_add]
theorem Px.mul_zero (a : Px p) : a * 0 = 0 := by rw [mul_comm, zero_mul]
theorem Px.neg_eq {a b : Px p} (h : a + b = 0) : b = -a := by
  apply add_cancel (c := a); rw [neg_add, add_comm]; exact h
theorem Px.neg_neg (a : Px p) : - -a = a := (neg_eq (neg_add a)).symm
theorem Px.neg_zero : -(0 : Px p) = 0 := (neg_eq (zero_add 0)).symm
theorem Px.mul_neg (a b : Px p) : a * -b = -(a * b) := neg_eq (by rw [← mul_add, add_neg, mul_zero])
theorem Px.neg_mul (a b : Px p) : -a * b = -(a * b) := by rw [mul_comm, mul_neg, mul_comm]
theorem Px.neg_add_rev (a b : Px p) : -(a + b) = -a + -b := (neg_eq (by
  rw [show a + b + (-a + -b) = (a + -a) + (b + -b) by ac_rfl, add_neg, add_neg, add_zero])).symm
theorem Px.sub_self (a : Px p) : a - a = 0 := add_neg a
theorem Px.sub_zero (a : Px p) : a - 0 = a := by rw [sub_def, neg_zero, add_zero]
theorem Px.mul_sub (a b c : Px p) : a * (b - c) = a * b - a * c := by rw [sub_def, mul_add, mul_neg, sub_def]
theorem Px.sub_mul (a b c : Px p) : (a - b) * c = a * c - b * c := by rw [sub_def, add_mul, neg_mul, sub_def]
theorem Px.sub_eq_iff {a b c : Px p} : a - b = c ↔ a = b + c := by
  constructor
  · rintro rfl; rw [sub_def, show b + (a + -b) = a + (b + -b) by ac_rfl, add_neg, add_zero]
  · rintro rfl; rw [sub_def, show b + c + -b = c + (b + -b) by ac_rfl, add_neg, add_zero]
theorem Px.sub_eq_zero {a b : Px p} : a - b = 0 ↔ a = b := by rw [sub_eq_iff, add_zero]

/-! ### Lists in the ring -/
def ev (p : Nat) (f : List Nat) : Px p := Px.of p (cf f)

theorem ev_inj (hp : 0 < p) {f g : List Nat} (hf : Pol p f) (hg : Pol p g) (h : ev p f = ev p g) : f = g := hf.ext_eqv hp hg (Px.eqv h)
theorem ev_sum (f g : List Nat) : ev p (sumP p f g) = ev p f + ev p g := Px.eq (sum_eqv p f g)
theorem ev_dif (hp : 0 < p) (f : List Nat) {g : List Nat} (hg : Red p g) : ev p (difP p f g) = ev p f - ev p g := Px.eq (dif_eqv hp f hg)
theorem ev_prod (f g : List Nat) : ev p (prodP' p f g) = ev p f * ev p g := Px.eq (prod_eqv p f g)
theorem ev_nil : ev p [] = 0 := Px.eq (Eqv.of_eq (by funext i; simp [cf]))
theorem ev_trim (f : List Nat) : ev p (trim f) = ev p f := by unfold ev; rw [cf_trim]
theorem ev_one : ev p [1] = 1 := Px.eq (Eqv.of_eq (by funext i; rcases i with _ | i <;> simp [cf]))
theorem ev_zero_iff (hp : 0 < p) {f : List Nat} (hf : Pol p f) : ev p f = 0 ↔ f = [] := by
  rw [← ev_nil]
  exact ⟨fun h => ev_inj hp hf (Pol.nil p) h, fun h => by rw [h]⟩

/-! ### The field -/
theorem fld_of {p : Nat} (h : Pr p) : Fld p := by
  refine ⟨h.1, fun a b ha hb hab => ?_⟩
  rcases h.dvd_mul (Nat.dvd_of_mod_eq_zero hab) with h1 | h1
  · left; exact Nat.eq_zero_of_dvd_of_lt h1 ha
  · right; exact Nat.eq_zero_of_dvd_of_lt h1 hb

theorem inv_spec {a : Nat} (h : Pr p) (ha : a < p) (h0 : a ≠ 0) : invM p a < p ∧ a * invM p a % p = 1 ∧ invM p a ≠ 0 := by
  have hp := h.1
  have hc : Nat.gcd (a : Int).toNat (p : Int).toNat = 1 := by
    have := h.cop (a := a) (not_dvd_of_lt (by omega) ha)
    rw [Int.toNat_natCast, Int.toNat_natCast, Nat.gcd_comm]; exact this
  obtain ⟨i, hi0, him, hi⟩ := exists_inv (a := (a : Int)) (m := (p : Int)) (by omega) (by omega) hc
  obtain ⟨j, rfl⟩ := Int.eq_ofNat_of_zero_le hi0
  have hj : a * j % p = 1 % p := by exact_mod_cast hi
  have h1 : 1 % p = 1 := Nat.mod_eq_of_lt (by omega)
  have hs : ∃ k, (List.range p).find? (fun i => a * i % p == 1 % p) = some k := by
    cases hf : (List.range p).find? (fun i => a * i % p == 1 % p) with
    | some k => exact ⟨k, rfl⟩
    | none =>
      have := List.find?_eq_none.1 hf j (List.mem_range.2 (by omega))
      simp [hj] at this
  obtain ⟨k, hk⟩ := hs
  have e : invM p a = k := by rw [invM, hk]; rfl
  have hk2 := List.mem_range.1 (List.mem_of_find?_eq_some hk)
  have hk3 := List.find?_some hk
  simp at hk3
  rw [e]
  refine ⟨hk2, by omega, ?_⟩
  rintro rfl
  rw [Nat.mul_zero, Nat.zero_mod] at hk3
  omega

end Go.Proofs.YtbehihanhfmmhaaGreat.Q

namespace Go.Proofs.YtbehihanhfmmhaaGreat.Q
open M (Pr)
variable {p : Nat}

def mono (p : Nat) (c : Int) (i : Nat) : Px p := Px.of p fun k => if k = i then c else 0
def shf (p : Nat) (i : Nat) (q : List Nat) : Px p := Px.of p fun k => if k < i then 0 else cf q (k - i)

theorem cau_mono (c : Int) (i : Nat) (G : Nat → Int) (k : Nat) : cau (fun k => if k = i then c else 0) G k = if i ≤ k then c * G (k - i) else 0 := by
  unfold cau
  split
  · next h =>
    have h1 : sm (k + 1) (fun j => (if j = i then c else 0) * G (k - j)) = sm (i + 1) fun j => (if j = i then c else 0) * G (k - j) :=
      sm_more (by omega) fun j h1 _ => by rw [if_neg (by omega), Int.zero_mul]
    rw [h1, sm, sm_zero fun j hj => by rw [if_neg (by omega), Int.zero_mul]]
    simp
  · next h => exact sm_zero fun j hj => by show (if j = i then c else 0) * _ = 0; rw [if_neg (by omega), Int.zero_mul]

theorem shf_zero (q : List Nat) : shf p 0 q = ev p q := by
  unfold shf ev; congr 1

theorem shf_cons (i c : Nat) (q : List Nat) : shf p i (c :: q) = mono p c i + shf p (i + 1) q := by
  rw [mono, shf, shf, Px.add_of]
  congr 1
  funext k
  rcases Nat.lt_trichotomy k i with h | h | h
  · rw [if_pos h, if_neg (by omega), if_pos (by omega)]; rfl
  · subst h; rw [if_neg (by omega), if_pos rfl, if_pos (by omega), Nat.sub_self]; simp [cf]
  · rw [if_neg (by omega), if_neg (by omega), if_neg (by omega), show k - i = k - (i + 1) + 1 by omega]; simp [cf]

theorem takeAway_getD (c i : Nat) (g rest : List Nat) (k : Nat) (hl : i + g.length ≤ rest.length) :
    (takeAway p c i g rest).getD k 0 = if i ≤ k ∧ k < i + g.length then (rest.getD k 0 + (p - c) * g.getD (k - i) 0) % p else rest.getD k 0 := by
  rcases Nat.lt_or_ge k rest.length with h | h
  · rw [getD_get (by rw [takeAway_length]; exact h), getD_get h]
    simp [takeAway]
  · rw [getD_out (by rw [takeAway_length]; exact h), getD_out h, if_neg (by omega)]

theorem takeAway_red (hp : 0 < p) {c i : Nat} {g rest : List Nat} (h : Red p rest) : Red p (takeAway p c i g rest) := by
  intro x hx
  unfold takeAway at hx
  rw [List.mem_mapIdx] at hx
  obtain ⟨k, hk, rfl⟩ := hx
  split
  · exact Nat.mod_lt _ hp
  · exact h _ (List.getElem_mem hk)

theorem takeAway_ev {c i : Nat} {g rest : List Nat} (hc : c ≤ p) (hl : i + g.length ≤ rest.length) : ev p rest = ev p (takeAway p c i g rest) + mono p c i * ev p g := by
  unfold ev mono
  rw [Px.mul_of, Px.add_of]
  refine Px.eq fun k => ?_
  rw [cau_mono]
  simp only [cf]
  rw [takeAway_getD c i g rest k hl]
  by_cases h1 : i ≤ k
  · rw [if_pos h1]
    by_cases h2 : k < i + g.length
    · rw [if_pos ⟨h1, h2⟩]
      obtain ⟨m, hm⟩ := natmod_eqv p (rest.getD k 0 + (p - c) * g.getD (k - i) 0)
      rw [hm]
      refine ⟨-(m + (g.getD (k - i) 0 : Nat)), ?_⟩
      obtain ⟨d, rfl⟩ : ∃ d, p = c + d := ⟨p - c, by omega⟩
      rw [show c + d - c = d by omega]
      simp only [Int.natCast_add, Int.natCast_mul, Int.mul_neg, Int.mul_add, Int.add_mul]
      omega
    · rw [if_neg (by omega)]
      refine ⟨0, ?_⟩
      rw [getD_out (f := g) (by omega)]; simp
  · rw [if_neg (by omega), if_neg h1]
    exact ⟨0, by simp⟩

structure DivOk (p : Nat) (g rest q rest' q' : List Nat) (i : Nat) : Prop where
  val : ev p rest + shf p i q * ev p g = ev p rest' + ev p q' * ev p g
  len : rest'.length = rest.length
  red : Red p rest'
  top : ∀ k, g.length - 1 ≤ k → rest'.getD k 0 = 0
  more : ∃ l, q' = l ++ q ∧ l.length = i ∧ Red p l

theorem divLoop_ok (hp : 2 ≤ p) {inv : Nat} {g : List Nat} (hg : g.length ≠ 0) (hgr : Red p g) (hinv : g.getD (g.length - 1) 0 * inv % p = 1) :
    ∀ (i : Nat) (rest q : List Nat), Red p rest → i + (g.length - 1) ≤ rest.length → (∀ k, i + (g.length - 1) ≤ k → rest.getD k 0 = 0) →
      DivOk p g rest q (divLoop p inv g i rest q).1 (divLoop p inv g i rest q).2 i
  | 0, rest, q, hr, hl, hz => ⟨by rw [divLoop, shf_zero], rfl, hr, fun k hk => hz k (by omega), [], rfl, rfl, fun x hx => by simp at hx⟩
  | i + 1, rest, q, hr, hl, hz => by
    rw [divLoop]
    obtain ⟨c, hc⟩ : ∃ c, rest.getD (i + (g.length - 1)) 0 * inv % p = c := ⟨_, rfl⟩
    obtain ⟨r2, hr2⟩ : ∃ r2, (if c = 0 then rest else takeAway p c i g rest) = r2 := ⟨_, rfl⟩
    have hcl : c < p := by rw [← hc]; exact Nat.mod_lt _ (by omega)
    simp only [hc, hr2]
    have hlen : i + g.length ≤ rest.length := by omega
    have htop : rest.getD (i + (g.length - 1)) 0 < p := hr.getD (by omega) _
    have hg1 := hgr.getD (p := p) (by omega) (g.length - 1)
    have hr2l : r2.length = rest.length := by
      rw [← hr2]
      split
      · rfl
      · exact takeAway_length ..
    have hr2r : Red p r2 := by
      rw [← hr2]
      split
      · exact hr
      · exact takeAway_red (by omega) hr
    have hev : ev p rest = ev p r2 + mono p c i * ev p g := by
      rw [← hr2]
      split
      · next h0 =>
        subst h0
        have : mono p ((0 : Nat) : Int) i = 0 := by unfold mono; rw [Px.zero_of]; congr 1; funext k; split <;> rfl
        rw [this, Px.zero_mul, Px.add_zero]
      · exact takeAway_ev (by omega) hlen
    -- the top number becomes 0
    have hkey : (rest.getD (i + (g.length - 1)) 0 + (p - c) * g.getD (g.length - 1) 0) % p = 0 := by
      generalize rest.getD (i + (g.length - 1)) 0 = t at hc htop ⊢
      generalize g.getD (g.length - 1) 0 = b at hinv hg1 ⊢
      have h1 : c * b % p = t % p := by
        rw [← hc, Nat.mod_mul_mod, Nat.mul_assoc, Nat.mul_comm inv b, ← Nat.mul_mod_mod, hinv, Nat.mul_one]
      have h2 : (t + (p - c) * b) % p = (c * b + (p - c) * b) % p := by
        rw [Nat.add_mod, ← h1, ← Nat.add_mod]
      rw [h2, ← Nat.add_mul, show c + (p - c) = p by omega, Nat.mul_mod_right]
    have hz2 : ∀ k, i + (g.length - 1) ≤ k → r2.getD k 0 = 0 := by
      intro k hk
      rw [← hr2]
      by_cases hkt : k = i + (g.length - 1)
      · subst hkt
        split
        · next h0 =>
          rw [h0, Nat.sub_zero, Nat.add_mul_mod_self_left, Nat.mod_eq_of_lt htop] at hkey
          exact hkey
        · rw [takeAway_getD _ _ _ _ _ hlen, if_pos (by omega), show i + (g.length - 1) - i = g.length - 1 by omega]
          exact hkey
      · split
        · exact hz k (by omega)
        · rw [takeAway_getD _ _ _ _ _ hlen, if_neg (by omega)]; exact hz k (by omega)
    have ih := divLoop_ok hp hg hgr hinv i r2 (c :: q) hr2r (by omega) hz2
    refine ⟨?_, by rw [ih.len, hr2l], ih.red, ih.top, ?_⟩
    · rw [← ih.val, shf_cons, hev, Px.add_mul]; ac_rfl
    · obtain ⟨l, h1, h2, h3⟩ := ih.more
      refine ⟨l ++ [c], by rw [h1]; simp, by simp [h2], fun x hx => ?_⟩
      rcases List.mem_append.1 hx with h4 | h4
      · exact h3 x h4
      · rw [List.mem_singleton.1 h4]; exact hcl

structure DivIs (p : Nat) (f g q r : List Nat) : Prop where
  val : ev p f = ev p q * ev p g + ev p r
  qpol : Pol p q
  rpol : Pol p r
  rlen : r.length < g.length
  qlen : q.length = f.length - (g.length - 1)

theorem div_is (hP : Pr p) {f g : List Nat} (hf : Pol p f) (hg : Pol p g) (hg0 : g.length ≠ 0) : DivIs p f g (divP p f g).1 (divP p f g).2 := by
  have hp := hP.1
  rw [divP]
  split
  · next h => exact ⟨by rw [ev_nil, Px.zero_mul, Px.zero_add], Pol.nil p, hf, h, by simp; omega⟩
  · next h =>
    have hgl := hg.red.getD (p := p) (by omega) (g.length - 1)
    have hinv := inv_spec hP hgl (hg.ne hg0)
    obtain ⟨inv, hi⟩ : ∃ inv, invM p (g.getD (g.length - 1) 0) = inv := ⟨_, rfl⟩
    rw [hi] at hinv ⊢
    have D := divLoop_ok hp hg0 hg.red hinv.2.1 (f.length - (g.length - 1)) f [] hf.red (by omega) (fun k hk => getD_out (by omega))
    obtain ⟨l, h1, h2, h3⟩ := D.more
    have hsh : shf p (f.length - (g.length - 1)) [] = 0 := by
      unfold shf; rw [Px.zero_of]; congr 1; funext k; simp [cf]
    have hrl : ∀ k, (((divLoop p inv g (f.length - (g.length - 1)) f []).1.take (g.length - 1)).getD k 0) = (divLoop p inv g (f.length - (g.length - 1)) f []).1.getD k 0 := by
      intro k; rw [getD_take]; split
      · rfl
      · rw [D.top k (by omega)]
    have hev : ev p ((divLoop p inv g (f.length - (g.length - 1)) f []).1.take (g.length - 1)) = ev p (divLoop p inv g (f.length - (g.length - 1)) f []).1 := by
      unfold ev; congr 1; funext k; simp only [cf, hrl]
    refine ⟨?_, ?_, (D.red.take _).trim, ?_, ?_⟩
    · have := D.val
      rw [hsh, Px.zero_mul, Px.add_zero] at this
      rw [this, ev_trim, hev, Px.add_comm]
    · rw [List.append_nil] at h1
      refine pol_of (by show Red p (divLoop p inv g (f.length - (g.length - 1)) f []).2; rw [h1]; exact h3) ?_
      right
      show (divLoop p inv g (f.length - (g.length - 1)) f []).2.getD ((divLoop p inv g (f.length - (g.length - 1)) f []).2.length - 1) 0 ≠ 0
      -- the number that is found first
      obtain ⟨i, hi2⟩ : ∃ i, f.length - (g.length - 1) = i + 1 := ⟨f.length - (g.length - 1) - 1, by omega⟩
      rw [hi2, divLoop]
      obtain ⟨c, hc⟩ : ∃ c, f.getD (i + (g.length - 1)) 0 * inv % p = c := ⟨_, rfl⟩
      have hft := hf.red.getD (p := p) (by omega) (i + (g.length - 1))
      have hfn : f.getD (i + (g.length - 1)) 0 ≠ 0 := by rw [show i + (g.length - 1) = f.length - 1 by omega]; exact hf.ne (by omega)
      have hc0 : c ≠ 0 := by
        rintro rfl
        rcases (fld_of hP).2 _ _ hft hinv.1 hc with h5 | h5
        · exact hfn h5
        · exact hinv.2.2 h5
      simp only [hc, if_neg hc0]
      have hlen : i + g.length ≤ f.length := by omega
      have hkey : (f.getD (i + (g.length - 1)) 0 + (p - c) * g.getD (g.length - 1) 0) % p = 0 := by
        generalize f.getD (i + (g.length - 1)) 0 = t at hc hft ⊢
        generalize g.getD (g.length - 1) 0 = b at hinv hgl ⊢
        have hcl : c < p := by rw [← hc]; exact Nat.mod_lt _ (by omega)
        have h1 : c * b % p = t % p := by
          rw [← hc, Nat.mod_mul_mod, Nat.mul_assoc, Nat.mul_comm inv b, ← Nat.mul_mod_mod, hinv.2.1, Nat.mul_one]
        have h2 : (t + (p - c) * b) % p = (c * b + (p - c) * b) % p := by
          rw [Nat.add_mod, ← h1, ← Nat.add_mod]
        rw [h2, ← Nat.add_mul, show c + (p - c) = p by omega, Nat.mul_mod_right]
      have D2 := divLoop_ok hp hg0 hg.red hinv.2.1 i (takeAway p c i g f) [c] (takeAway_red (by omega) hf.red) (by rw [takeAway_length]; omega) (fun k hk => by
        rw [takeAway_getD _ _ _ _ _ hlen]
        split
        · have : k = i + (g.length - 1) := by omega
          subst this
          rw [show i + (g.length - 1) - i = g.length - 1 by omega]; exact hkey
        · exact getD_out (by omega))
      obtain ⟨l2, h6, h7, _⟩ := D2.more
      rw [h6]
      simp [h7]
      exact hc0
    · rw [trim_length]
      have h8 := trimLen_le ((divLoop p inv g (f.length - (g.length - 1)) f []).1.take (g.length - 1))
      rw [List.length_take] at h8
      omega
    · show (divLoop p inv g (f.length - (g.length - 1)) f []).2.length = _
      rw [h1, List.append_nil, h2]

end Go.Proofs.YtbehihanhfmmhaaGreat.Q

namespace Go.Proofs.YtbehihanhfmmhaaGreat.Q
open M (Pr)
variable {p : Nat}

theorem Pr.pos {p : Nat} (h : Pr p) : 0 < p := by have := h.1; omega

theorem pol_prod (hP : Pr p) {f g : List Nat} (hf : Pol p f) (hg : Pol p g) : Pol p (prodP' p f g) := prod_last (fld_of hP) hf hg

theorem prod_len {f g : List Nat} (hf : f.length ≠ 0) (hg : g.length ≠ 0) : (prodP' p f g).length + 1 = f.length + g.length := by
  rw [prod_length hf hg]; omega

theorem len_zero {f : List Nat} : f.length = 0 ↔ f = [] := List.length_eq_zero_iff

/-- No zero divisors. -/
theorem mul_eq_zero (hP : Pr p) {f g : List Nat} (hf : Pol p f) (hg : Pol p g) (h : ev p f * ev p g = 0) : f = [] ∨ g = [] := by
  rw [← ev_prod, ev_zero_iff (Pr.pos hP) (pol_prod hP hf hg)] at h
  by_cases h1 : f.length = 0
  · exact .inl (len_zero.1 h1)
  · by_cases h2 : g.length = 0
    · exact .inr (len_zero.1 h2)
    · have := prod_len (p := p) h1 h2
      rw [h] at this
      simp at this
      omega

theorem mul_cancel (hP : Pr p) {f g h : List Nat} (hf : Pol p f) (hg : Pol p g) (hh : Pol p h) (hn : h ≠ []) (he : ev p f * ev p h = ev p g * ev p h) : f = g := by
  have hp := Pr.pos hP
  have h1 : ev p (difP p f g) * ev p h = 0 := by rw [ev_dif hp f hg.red, Px.sub_mul, he, Px.sub_self]
  rcases mul_eq_zero hP (pol_dif hp f g) hh h1 with h2 | h2
  · have h3 := ev_dif hp f hg.red
    rw [h2, ev_nil] at h3
    exact ev_inj hp hf hg (Px.sub_eq_zero.1 h3.symm)
  · exact absurd h2 hn

/-- The length of a list with the same value is the same; that of a sum is bounded. -/
theorem len_le_of {f : List Nat} (hf : Pol p f) {n : Nat} (h : ∀ i, n ≤ i → f.getD i 0 = 0) : f.length ≤ n := by
  rcases Nat.lt_or_ge n f.length with h1 | h1
  · exact absurd (h (f.length - 1) (by omega)) (hf.ne (by omega))
  · exact h1

theorem dif_len (hp : 0 < p) {f g : List Nat} : (difP p f g).length ≤ max f.length g.length := by
  refine len_le_of (pol_dif hp f g) fun i hi => ?_
  rw [dif_getD, getD_out (by omega), getD_out (by omega)]; simp

theorem sum_len (hp : 0 < p) {f g : List Nat} : (sumP p f g).length ≤ max f.length g.length := by
  refine len_le_of (pol_sum hp f g) fun i hi => ?_
  rw [sum_getD, getD_out (by omega), getD_out (by omega)]; simp

/-- Quotient and remainder are unique. -/
theorem div_unique (hP : Pr p) {f g q r : List Nat} (hf : Pol p f) (hg : Pol p g) (hg0 : g.length ≠ 0) (hq : Pol p q) (hr : Pol p r) (hl : r.length < g.length) (h : ev p f = ev p q * ev p g + ev p r) :
    divP p f g = (q, r) := by
  have hp := Pr.pos hP
  have D := div_is hP hf hg hg0
  generalize divP p f g = d at D ⊢
  obtain ⟨q', r'⟩ := d
  simp only at D
  have h1 : ev p (difP p q q') * ev p g = ev p (difP p r' r) := by
    rw [ev_dif hp q D.qpol.red, ev_dif hp r' hr.red, Px.sub_mul]
    have h2 := D.val
    rw [h] at h2
    rw [Px.sub_eq_iff]
    have h3 := congrArg (· + -ev p r) h2
    simp only [Px.add_assoc, Px.add_neg, Px.add_zero] at h3
    rw [h3, Px.sub_def]
  have h2 : difP p r' r = [] := by
    have h4 := dif_len hp (f := r') (g := r)
    have h5 := D.rlen
    by_cases h0 : (difP p q q').length = 0
    · rw [len_zero.1 h0, ev_nil, Px.zero_mul] at h1
      exact (ev_zero_iff hp (pol_dif hp _ _)).1 h1.symm
    · rw [← ev_prod] at h1
      have h6 := ev_inj hp (pol_prod hP (pol_dif hp _ _) hg) (pol_dif hp _ _) h1
      have h7 := prod_len (p := p) h0 hg0
      rw [h6] at h7
      omega
  rw [h2, ev_nil] at h1
  have h8 : difP p q q' = [] := by
    rcases mul_eq_zero hP (pol_dif hp q q') hg h1 with h9 | h9
    · exact h9
    · rw [h9] at hg0; exact absurd rfl hg0
  have h9 := ev_dif hp q D.qpol.red
  rw [h8, ev_nil] at h9
  have h10 := ev_dif hp r' hr.red
  rw [h2, ev_nil] at h10
  rw [ev_inj hp hq D.qpol (Px.sub_eq_zero.1 h9.symm), ev_inj hp D.rpol hr (Px.sub_eq_zero.1 h10.symm)]

/-! ### Divisors -/
def Dv (p : Nat) (d f : List Nat) : Prop := ∃ q, Pol p q ∧ ev p f = ev p q * ev p d

theorem Dv.refl (hp : 2 ≤ p) (f : List Nat) : Dv p f f := ⟨[1], pol_of (by intro x hx; simp at hx; omega) (by simp), by rw [ev_one, Px.one_mul]⟩
theorem Dv.nil (d : List Nat) : Dv p d [] := ⟨[], Pol.nil p, by rw [ev_nil, Px.zero_mul]⟩
theorem Dv.trans (hP : Pr p) {a b c : List Nat} (h : Dv p a b) (h' : Dv p b c) : Dv p a c := by
  obtain ⟨q, hq, e⟩ := h
  obtain ⟨r, hr, e'⟩ := h'
  exact ⟨prodP' p r q, pol_prod hP hr hq, by rw [e', e, ev_prod, Px.mul_assoc]⟩
theorem Dv.mul (hP : Pr p) {d f g : List Nat} (hg : Pol p g) (h : Dv p d f) : Dv p d (prodP' p f g) := by
  obtain ⟨q, hq, e⟩ := h
  exact ⟨prodP' p q g, pol_prod hP hq hg, by rw [ev_prod, ev_prod, e]; ac_rfl⟩
theorem Dv.of_add (hP : Pr p) {d f g h : List Nat} (h1 : Dv p d f) (h2 : Dv p d g) (e : ev p h = ev p f + ev p g) : Dv p d h := by
  obtain ⟨q, hq, e1⟩ := h1
  obtain ⟨r, hr, e2⟩ := h2
  exact ⟨sumP p q r, pol_sum (Pr.pos hP) _ _, by rw [e, e1, e2, ev_sum, Px.add_mul]⟩
theorem Dv.of_sub (hP : Pr p) {d f g h : List Nat} (h1 : Dv p d f) (h2 : Dv p d g) (e : ev p h + ev p g = ev p f) : Dv p d h := by
  have hp := Pr.pos hP
  obtain ⟨q, hq, e1⟩ := h1
  obtain ⟨r, hr, e2⟩ := h2
  refine ⟨difP p q r, pol_dif hp _ _, ?_⟩
  rw [ev_dif hp q hr.red, Px.sub_mul, ← e1, ← e2]
  exact (Px.sub_eq_iff.2 (by rw [← e, Px.add_comm])).symm

theorem Dv.len (hP : Pr p) {d f : List Nat} (hd : Pol p d) (hf : Pol p f) (h : Dv p d f) (h0 : f.length ≠ 0) : d.length ≤ f.length ∧ d.length ≠ 0 := by
  have hp := Pr.pos hP
  obtain ⟨q, hq, e⟩ := h
  rw [← ev_prod] at e
  have e' := ev_inj hp hf (pol_prod hP hq hd) e
  by_cases h1 : q.length = 0
  · rw [prod_nil (.inl h1)] at e'; rw [e'] at h0; simp at h0
  · by_cases h2 : d.length = 0
    · rw [prod_nil (.inr h2)] at e'; rw [e'] at h0; simp at h0
    · have := prod_len (p := p) h1 h2
      rw [← e'] at this
      omega

/-- Divided without a remainder, just if it divides. -/
theorem rem_nil_iff (hP : Pr p) {f g : List Nat} (hf : Pol p f) (hg : Pol p g) (hg0 : g.length ≠ 0) : (divP p f g).2 = [] ↔ Dv p g f := by
  have D := div_is hP hf hg hg0
  constructor
  · intro h
    refine ⟨(divP p f g).1, D.qpol, ?_⟩
    have := D.val
    rwa [h, ev_nil, Px.add_zero] at this
  · rintro ⟨q, hq, e⟩
    rw [div_unique hP hf hg hg0 hq (Pol.nil p) (by simp; omega) (by rw [e, ev_nil, Px.add_zero])]

/-- The quotient of a product. -/
theorem div_exact (hP : Pr p) {f g q : List Nat} (hf : Pol p f) (hg : Pol p g) (hg0 : g.length ≠ 0) (hq : Pol p q) (e : ev p f = ev p q * ev p g) : divP p f g = (q, []) :=
  div_unique hP hf hg hg0 hq (Pol.nil p) (by simp; omega) (by rw [e, ev_nil, Px.add_zero])

/-! ### Constants, and monic polynomials -/
theorem pol_const {c : Nat} (h : c < p) (h0 : c ≠ 0) : Pol p [c] := pol_of (by intro x hx; simp at hx; omega) (by simpa using h0)

theorem ev_const_mul (a b : Nat) (h : a * b % p = 1) : ev p [a] * ev p [b] = 1 := by
  rw [← ev_prod, ← ev_one]
  congr 1
  unfold prodP'
  simp [conv, h]

theorem monicC_pol (hP : Pr p) {f : List Nat} (hf : Pol p f) (h0 : f.length ≠ 0) : ∃ c, monicC p f = [c] ∧ c < p ∧ c ≠ 0 ∧ f.getD (f.length - 1) 0 * c % p = 1 := by
  have h1 := inv_spec hP (hf.red.getD (Pr.pos hP) _) (hf.ne h0)
  exact ⟨_, by rw [monicC, if_neg h0], h1.1, h1.2.2, h1.2.1⟩

def Mon (f : List Nat) : Prop := f.length ≠ 0 ∧ f.getD (f.length - 1) 0 = 1

theorem monic_is (hP : Pr p) {f : List Nat} (hf : Pol p f) (h0 : f.length ≠ 0) : Pol p (monicP p f) ∧ Mon (monicP p f) ∧ (monicP p f).length = f.length ∧ ev p (monicP p f) = ev p f * ev p (monicC p f) ∧ Dv p f (monicP p f) ∧ Dv p (monicP p f) f := by
  obtain ⟨c, hc, hcl, hc0, hinv⟩ := monicC_pol hP hf h0
  have hcp := pol_const hcl hc0
  have e : monicP p f = prodP' p f [c] := by rw [monicP, if_neg h0, hc]
  have hl : (monicP p f).length = f.length := by
    have := prod_len (p := p) (f := f) (g := [c]) h0 (by simp)
    rw [e]; simp at this; omega
  have hev : ev p (monicP p f) = ev p f * ev p [c] := by rw [e, ev_prod]
  refine ⟨by rw [e]; exact pol_prod hP hf hcp, ⟨by omega, ?_⟩, hl, by rw [hev, hc], ⟨[c], hcp, by rw [hev, Px.mul_comm]⟩, ?_⟩
  · have h2 := prod_getD p f [c] (f.length - 1)
    rw [show f.length - 1 = f.length + [c].length - 2 by simp, cau_top h0 (by simp)] at h2
    rw [hl, e, show f.length - 1 = f.length + [c].length - 2 by simp]
    have h3 : cf f (f.length - 1) * cf [c] ([c].length - 1) % (p : Int) = 1 := by
      simp only [cf, List.length_singleton, Nat.sub_self, List.getD_cons_zero]
      exact_mod_cast hinv
    rw [h3] at h2
    exact_mod_cast h2
  · refine ⟨[f.getD (f.length - 1) 0], pol_const (hf.red.getD (Pr.pos hP) _) (hf.ne h0), ?_⟩
    rw [hev, Px.mul_comm, Px.mul_assoc, Px.mul_comm (ev p [c]), ev_const_mul _ _ hinv, Px.mul_one]

/-- Monic polynomials that divide each other are the same. -/
theorem mon_unique (hP : Pr p) {f g : List Nat} (hf : Pol p f) (hg : Pol p g) (mf : Mon f) (mg : Mon g) (h1 : Dv p f g) (h2 : Dv p g f) : f = g := by
  have hp := Pr.pos hP
  have l1 := h1.len hP hf hg mg.1
  have l2 := h2.len hP hg hf mf.1
  obtain ⟨q, hq, e⟩ := h1
  rw [← ev_prod] at e
  have e' := ev_inj hp hg (pol_prod hP hq hf) e
  have hq0 : q.length ≠ 0 := fun h0 => by
    rw [prod_nil (.inl h0)] at e'
    have := mg.1
    rw [e'] at this
    exact this rfl
  have hl := prod_len (p := p) hq0 mf.1
  rw [← e'] at hl
  have hq1 : q.length = 1 := by omega
  have h2 := prod_getD p q f (q.length + f.length - 2)
  rw [cau_top hq0 mf.1, ← e'] at h2
  have h3 : g.getD (q.length + f.length - 2) 0 = 1 := by rw [show q.length + f.length - 2 = g.length - 1 by omega]; exact mg.2
  have h4 : cf f (f.length - 1) = 1 := by unfold cf; rw [mf.2]; rfl
  rw [h3, h4, Int.mul_one] at h2
  have h5 := hq.red.getD hp (q.length - 1)
  have h6 : q.getD (q.length - 1) 0 = 1 := by
    unfold cf at h2
    have : ((q.getD (q.length - 1) 0 : Nat) : Int) % p = (q.getD (q.length - 1) 0 : Nat) := by exact_mod_cast Nat.mod_eq_of_lt h5
    omega
  have h7 : q = [1] := by
    match q, hq1 with
    | [a], _ => simp at h6; rw [h6]
  rw [h7, ev_prod, ev_one, Px.one_mul] at e
  exact (ev_inj hp hg hf e).symm

/-! ### The greatest common divisor -/
theorem rem_len (f g : List Nat) (h : g.length ≠ 0) : (remP p f g).length < g.length := by
  rw [remP, divP]
  split
  · assumption
  · show (trim _).length < _
    rw [trim_length]
    have := trimLen_le ((divLoop p (invM p (g.getD (g.length - 1) 0)) g (f.length - (g.length - 1)) f []).1.take (g.length - 1))
    rw [List.length_take] at this
    omega

structure GcdIs (p : Nat) (f g d : List Nat) : Prop where
  pol : Pol p d
  mon : d = [] ∨ Mon d
  zero : d = [] ↔ f = [] ∧ g = []
  left : Dv p d f
  right : Dv p d g
  comb : ∃ a b, Pol p a ∧ Pol p b ∧ ev p d = ev p a * ev p f + ev p b * ev p g

theorem gcdLoop_is (hP : Pr p) : ∀ (n : Nat) {f g : List Nat}, Pol p f → Pol p g → g.length < n → ∃ d, gcdLoop p n f g = some d ∧ GcdIs p f g d
  | 0, f, g, _, _, h => by omega
  | n + 1, f, g, hf, hg, h => by
    have hp := Pr.pos hP
    have h2 := hP.1
    rw [gcdLoop]
    split
    · next h0 =>
      refine ⟨_, rfl, ?_⟩
      have hg' := len_zero.1 h0
      subst hg'
      by_cases hf0 : f.length = 0
      · have e := len_zero.1 hf0
        subst e
        rw [monicP, if_pos List.length_nil]
        exact ⟨Pol.nil p, .inl rfl, by simp, Dv.nil _, Dv.nil _, [], [], Pol.nil p, Pol.nil p, by rw [ev_nil, Px.zero_mul, Px.zero_add]⟩
      · obtain ⟨m1, m2, m3, m4, m5, m6⟩ := monic_is hP hf hf0
        obtain ⟨c, hc, hcl, hc0, _⟩ := monicC_pol hP hf hf0
        refine ⟨m1, .inr m2, ?_, m6, Dv.nil _, [c], [], pol_const hcl hc0, Pol.nil p, by rw [m4, hc, ev_nil, Px.zero_mul, Px.add_zero, Px.mul_comm]⟩
        constructor
        · intro h; rw [h] at m3; simp at m3; omega
        · rintro ⟨rfl, _⟩; exact absurd rfl hf0
    · next h0 =>
      have D := div_is hP hf hg h0
      have hl := rem_len (p := p) f g h0
      obtain ⟨d, e, G⟩ := gcdLoop_is hP n (f := g) (g := remP p f g) hg D.rpol (by omega)
      refine ⟨d, e, G.pol, G.mon, ?_, ?_, G.left, ?_⟩
      · rw [G.zero]
        constructor
        · rintro ⟨rfl, _⟩; exact absurd rfl h0
        · rintro ⟨_, rfl⟩; exact absurd rfl h0
      · refine Dv.of_add hP (f := prodP' p g (divP p f g).1) (g := remP p f g) (G.left.mul hP D.qpol) G.right ?_
        rw [ev_prod, D.val, Px.mul_comm]; rfl
      · obtain ⟨a, b, ha, hb, e⟩ := G.comb
        refine ⟨b, difP p a (prodP' p b (divP p f g).1), hb, pol_dif hp _ _, ?_⟩
        have hv := D.val
        rw [show (divP p f g).2 = remP p f g from rfl] at hv
        rw [e, ev_dif hp a (pol_prod hP hb D.qpol).red, ev_prod, Px.sub_mul, hv, Px.mul_add, Px.sub_def]
        rw [show ev p b * (ev p (divP p f g).1 * ev p g) + ev p b * ev p (remP p f g) + (ev p a * ev p g + -(ev p b * ev p (divP p f g).1 * ev p g)) = ev p a * ev p g + ev p b * ev p (remP p f g) + (ev p b * (ev p (divP p f g).1 * ev p g) + -(ev p b * ev p (divP p f g).1 * ev p g)) by ac_rfl, Px.mul_assoc (ev p b), Px.add_neg, Px.add_zero]

theorem GcdIs.greatest (hP : Pr p) {f g d c : List Nat} (G : GcdIs p f g d) (h1 : Dv p c f) (h2 : Dv p c g) : Dv p c d := by
  obtain ⟨a, b, ha, hb, e⟩ := G.comb
  refine Dv.of_add hP (h1.mul hP ha) (h2.mul hP hb) ?_
  rw [e, ev_prod, ev_prod, Px.mul_comm (ev p a), Px.mul_comm (ev p b)]

theorem GcdIs.unique (hP : Pr p) {f g d d' : List Nat} (G : GcdIs p f g d) (G' : GcdIs p f g d') : d = d' := by
  have h1 := G'.greatest hP G.left G.right
  have h2 := G.greatest hP G'.left G'.right
  by_cases h0 : d = []
  · rw [h0, (G'.zero.2 (G.zero.1 h0))]
  · have h0' : d' ≠ [] := fun h => h0 (G.zero.2 (G'.zero.1 h))
    exact mon_unique hP G.pol G'.pol (G.mon.resolve_left h0) (G'.mon.resolve_left h0') h1 h2

theorem GcdIs.symm {f g d : List Nat} (G : GcdIs p f g d) : GcdIs p g f d := by
  obtain ⟨a, b, ha, hb, e⟩ := G.comb
  exact ⟨G.pol, G.mon, by rw [G.zero, and_comm], G.right, G.left, b, a, hb, ha, by rw [e, Px.add_comm]⟩

theorem gcdP_is (hP : Pr p) {f g : List Nat} (hf : Pol p f) (hg : Pol p g) : GcdIs p f g (gcdP p f g) := by
  obtain ⟨d, e, G⟩ := gcdLoop_is hP (g.length + 1) hf hg (by omega)
  rw [gcdP, e]
  exact G

end Go.Proofs.YtbehihanhfmmhaaGreat.Q

namespace Go.Proofs.YtbehihanhfmmhaaGreat.Q
open M (Pr)
variable {p : Nat}

/-- The program's loop, in at most n steps. -/
def xgcdLoop (p : Nat) : Nat → List Nat → List Nat → List Nat → List Nat → Option (List Nat × List Nat)
  | 0, _, _, _, _ => none
  | n + 1, r, s, a, b => if s.length = 0 then some (r, a) else xgcdLoop p n s (divP p r s).2 b (difP p a (prodP' p (divP p r s).1 b))

structure Xg (p : Nat) (f g r s a b : List Nat) : Prop where
  rpol : Pol p r
  spol : Pol p s
  apol : Pol p a
  bpol : Pol p b
  left : ∃ y, Pol p y ∧ ev p r = ev p a * ev p f + ev p y * ev p g
  right : ∃ z, Pol p z ∧ ev p s = ev p b * ev p f + ev p z * ev p g

structure Late (g r s a b : List Nat) : Prop where
  sum : b.length + r.length = g.length + 1
  lt : a.length < b.length
  down : s.length < r.length

theorem Xg.step (hP : Pr p) {f g r s a b : List Nat} (h : Xg p f g r s a b) (hs : s.length ≠ 0) : Xg p f g s (divP p r s).2 b (difP p a (prodP' p (divP p r s).1 b)) := by
  have hp := Pr.pos hP
  have D := div_is hP h.rpol h.spol hs
  obtain ⟨y, hy, e1⟩ := h.left
  obtain ⟨z, hz, e2⟩ := h.right
  refine ⟨h.spol, D.rpol, h.bpol, pol_dif hp _ _, ⟨z, hz, e2⟩, difP p y (prodP' p (divP p r s).1 z), pol_dif hp _ _, ?_⟩
  have hv := D.val
  rw [ev_dif hp _ (pol_prod hP D.qpol h.bpol).red, ev_dif hp _ (pol_prod hP D.qpol hz).red, ev_prod, ev_prod]
  generalize ev p (divP p r s).1 = q at hv
  have h1 : ev p (divP p r s).2 = ev p r - q * ev p s := (Px.sub_eq_iff.2 hv).symm
  rw [h1, e1, e2]
  simp only [Px.sub_def, Px.add_mul, Px.mul_add, Px.neg_mul, Px.neg_add_rev, Px.mul_assoc]
  ac_rfl

theorem div_len (hP : Pr p) {f g : List Nat} (hf : Pol p f) (hg : Pol p g) (h0 : g.length ≠ 0) : (divP p f g).1.length = f.length - (g.length - 1) := (div_is hP hf hg h0).qlen

theorem dif_len_right (hp : 0 < p) {f g : List Nat} (hg : Pol p g) (h : f.length < g.length) : (difP p f g).length = g.length := by
  have h1 := dif_len hp (f := f) (g := g)
  rcases Nat.lt_or_ge (difP p f g).length g.length with h2 | h2
  · exfalso
    have h3 : (difP p f g).getD (g.length - 1) 0 = 0 := getD_out (by omega)
    rw [dif_getD, getD_out (f := f) (by omega), Nat.zero_add] at h3
    have h4 := hg.red.getD hp (g.length - 1)
    have h5 := hg.ne (by omega)
    rw [Nat.mod_eq_of_lt (by omega)] at h3
    omega
  · omega

theorem Late.first (hP : Pr p) {f g : List Nat} (hf : Pol p f) (hg : Pol p g) (h0 : g.length ≠ 0) : Late g g (divP p f g).2 [] (difP p [1] (prodP' p (divP p f g).1 [])) := by
  have h2 := hP.1
  have e : difP p [1] (prodP' p (divP p f g).1 []) = [1] := by
    rw [prod_nil (.inr rfl)]
    have h3 : 1 % p = 1 := Nat.mod_eq_of_lt (by omega)
    simp [difP, comb, trim, trimLen, h3]
  rw [e]
  exact ⟨by simp; omega, by simp, (div_is hP hf hg h0).rlen⟩

theorem Late.step (hP : Pr p) {f g r s a b : List Nat} (h : Late g r s a b) (x : Xg p f g r s a b) (hs : s.length ≠ 0) : Late g s (divP p r s).2 b (difP p a (prodP' p (divP p r s).1 b)) := by
  have hp := Pr.pos hP
  have D := div_is hP x.rpol x.spol hs
  have hl := D.qlen
  have h1 := h.down
  have h2 := h.lt
  have h3 := h.sum
  have h4 := prod_len (p := p) (f := (divP p r s).1) (g := b) (by omega) (by omega)
  have h5 := dif_len_right hp (f := a) (pol_prod hP D.qpol x.bpol) (by omega)
  exact ⟨by omega, by omega, D.rlen⟩

theorem xgcdLoop_late (hP : Pr p) {f g : List Nat} : ∀ (n : Nat) {r s a b : List Nat}, Xg p f g r s a b → Late g r s a b → s.length < n →
    ∃ R A, xgcdLoop p n r s a b = some (R, A) ∧ gcdLoop p n r s = some (monicP p R) ∧ Pol p R ∧ R.length ≠ 0 ∧ Pol p A ∧ A.length + R.length ≤ g.length ∧ ∃ y, Pol p y ∧ ev p R = ev p A * ev p f + ev p y * ev p g
  | 0, r, s, a, b, x, l, h => by omega
  | n + 1, r, s, a, b, x, l, h => by
    rw [xgcdLoop, gcdLoop]
    by_cases h0 : s.length = 0
    · rw [if_pos h0, if_pos h0]
      have h1 := l.down
      have h2 := l.sum
      have h3 := l.lt
      exact ⟨r, a, rfl, rfl, x.rpol, by omega, x.apol, by omega, x.left⟩
    · rw [if_neg h0, if_neg h0]
      have h1 := (div_is hP x.rpol x.spol h0).rlen
      exact xgcdLoop_late hP n (x.step hP h0) (l.step hP x h0) (by omega)

structure XgIs (p : Nat) (f g R A : List Nat) : Prop where
  rpol : Pol p R
  apol : Pol p A
  gcd : gcdP p f g = monicP p R
  comb : ∃ y, Pol p y ∧ ev p R = ev p A * ev p f + ev p y * ev p g
  bound : g.length ≠ 0 → A.length + R.length ≤ g.length
  none : g.length = 0 → R = f ∧ A = [1]

theorem xgcd_is (hP : Pr p) {f g : List Nat} (hf : Pol p f) (hg : Pol p g) : ∃ R A, xgcdLoop p (g.length + 1) f g [1] [] = some (R, A) ∧ XgIs p f g R A := by
  have h2 := hP.1
  have h1 : Pol p [1] := pol_const (by omega) (by omega)
  have X : Xg p f g f g [1] [] := ⟨hf, hg, h1, Pol.nil p, ⟨[], Pol.nil p, by rw [ev_one, Px.one_mul, ev_nil, Px.zero_mul, Px.add_zero]⟩, ⟨[1], h1, by rw [ev_one, Px.one_mul, ev_nil, Px.zero_mul, Px.zero_add]⟩⟩
  by_cases h0 : g.length = 0
  · refine ⟨f, [1], by rw [xgcdLoop, if_pos h0], hf, h1, ?_, X.left, fun h => absurd h0 h, fun _ => ⟨rfl, rfl⟩⟩
    rw [gcdP, gcdLoop, if_pos h0]; rfl
  · have hl := (div_is hP hf hg h0).rlen
    obtain ⟨R, A, e1, e2, r1, r2, r3, r4, r5⟩ := xgcdLoop_late hP g.length (X.step hP h0) (Late.first hP hf hg h0) (by omega)
    refine ⟨R, A, by rw [xgcdLoop, if_neg h0]; exact e1, r1, r3, ?_, r5, fun _ => r4, fun h => absurd h h0⟩
    rw [gcdP, gcdLoop, if_neg h0]
    show (gcdLoop p g.length g (divP p f g).2).getD [] = _
    rw [e2]; rfl

/-- The program's Gcd. -/
def gcdA (p : Nat) (R A : List Nat) : List Nat := prodP' p A (monicC p R)
def gcdB (p : Nat) (f g R A : List Nat) : List Nat := if g.length = 0 then [] else (divP p (difP p (monicP p R) (prodP' p (gcdA p R A) f)) g).1

structure GcdOut (p : Nat) (f g d a b : List Nat) : Prop where
  isgcd : d = gcdP p f g
  apol : Pol p a
  bpol : Pol p b
  comb : sumP p (prodP' p a f) (prodP' p b g) = d
  g0 : g.length = 0 → b.length = 0 ∧ a.length = min f.length 1
  f0 : g.length ≠ 0 → f.length = 0 → a.length = 0 ∧ b.length = 1
  bound : g.length ≠ 0 → f.length ≠ 0 → if (divP p f d).1.length = 1 ∧ (divP p g d).1.length = 1 then a.length = 0 ∧ b.length = 1 else (a.length = 0 ∨ a.length < (divP p g d).1.length) ∧ (b.length = 0 ∨ b.length < (divP p f d).1.length)

theorem gcdOut (hP : Pr p) {f g R A : List Nat} (hf : Pol p f) (hg : Pol p g) (h : XgIs p f g R A) : GcdOut p f g (monicP p R) (gcdA p R A) (gcdB p f g R A) := by
  have hp := Pr.pos hP
  have h2 := hP.1
  have G := gcdP_is hP hf hg
  rw [h.gcd] at G
  by_cases hR : R.length = 0
  · -- both are 0
    have hd : monicP p R = [] := by rw [monicP, if_pos hR]
    have hz := G.zero.1 hd
    obtain ⟨rfl, rfl⟩ := hz
    have ha : gcdA p R A = [] := by rw [gcdA, monicC, if_pos hR, prod_nil (.inr rfl)]
    have hb : gcdB p [] [] R A = [] := by rw [gcdB, if_pos List.length_nil]
    rw [hd, ha, hb]
    refine ⟨by rw [h.gcd, hd], Pol.nil p, Pol.nil p, ?_, fun _ => ⟨rfl, rfl⟩, fun h => absurd rfl h, fun h => absurd rfl h⟩
    simp [prodP', sumP, comb, trim]
  · obtain ⟨m1, m2, m3, m4, m5, m6⟩ := monic_is hP h.rpol hR
    obtain ⟨c, hc, hcl, hc0, hinv⟩ := monicC_pol hP h.rpol hR
    have hcp := pol_const hcl hc0
    have hap : Pol p (gcdA p R A) := by rw [gcdA, hc]; exact pol_prod hP h.apol hcp
    obtain ⟨y, hy, ey⟩ := h.comb
    have hal : (gcdA p R A).length = A.length := by
      rw [gcdA, hc]
      by_cases h0 : A.length = 0
      · rw [prod_nil (.inl h0), h0]; rfl
      · have := prod_len (p := p) (f := A) (g := [c]) h0 (by simp)
        simp at this; omega
    have ed : ev p (monicP p R) = ev p (gcdA p R A) * ev p f + ev p (prodP' p y [c]) * ev p g := by
      rw [m4, hc, ey, gcdA, hc, ev_prod, ev_prod, Px.add_mul]; ac_rfl
    have hyc := pol_prod hP hy hcp
    by_cases hg0 : g.length = 0
    · obtain ⟨rfl, rfl⟩ := h.none hg0
      have hb : gcdB p R g R [1] = [] := by rw [gcdB, if_pos hg0]
      rw [hb]
      refine ⟨h.gcd.symm, hap, Pol.nil p, ?_, fun _ => ⟨rfl, by rw [hal]; simp; omega⟩, fun h => absurd hg0 h, fun h => absurd hg0 h⟩
      refine ev_inj hp (pol_sum hp _ _) m1 ?_
      rw [ev_sum, ev_prod, ev_prod, ed, len_zero.1 hg0, ev_nil, Px.zero_mul, Px.mul_zero]
    · have hbd := h.bound hg0
      have hdf := pol_dif hp (monicP p R) (prodP' p (gcdA p R A) f)
      have ediv : ev p (difP p (monicP p R) (prodP' p (gcdA p R A) f)) = ev p (prodP' p y [c]) * ev p g := by
        rw [ev_dif hp _ (pol_prod hP hap hf).red, Px.sub_eq_iff, ev_prod, ed]
      have hdv := div_exact hP hdf hg hg0 hyc ediv
      have hb : gcdB p f g R A = prodP' p y [c] := by rw [gcdB, if_neg hg0, hdv]
      rw [hb]
      have hcomb : sumP p (prodP' p (gcdA p R A) f) (prodP' p (prodP' p y [c]) g) = monicP p R := by
        refine ev_inj hp (pol_sum hp _ _) m1 ?_
        rw [ev_sum, ev_prod, ev_prod _ g, ed]
      generalize prodP' p y [c] = b at *
      generalize gcdA p R A = a at *
      have hbz : b.length ≠ 0 → b.length + g.length = (difP p (monicP p R) (prodP' p a f)).length + 1 := fun h0 => by
        rw [← ev_prod] at ediv
        rw [ev_inj hp hdf (pol_prod hP hyc hg) ediv]
        have := prod_len (p := p) h0 hg0
        omega
      have hdl := dif_len hp (f := monicP p R) (g := prodP' p a f)
      refine ⟨h.gcd.symm, hap, hyc, hcomb, fun h0 => absurd h0 hg0, fun _ hf0 => ?_, fun _ hf0 => ?_⟩
      · -- f is 0
        have hfn := len_zero.1 hf0
        subst hfn
        have hda := G.right.len hP m1 hg hg0
        have e1 : ev p (monicP p R) = ev p b * ev p g := by rw [ed, ev_nil, Px.mul_zero, Px.zero_add]
        rw [← ev_prod] at e1
        have e2 := ev_inj hp m1 (pol_prod hP hyc hg) e1
        have hb0 : b.length ≠ 0 := fun h0 => by rw [prod_nil (.inl h0)] at e2; rw [e2] at m3; simp at m3; omega
        have h5 := prod_len (p := p) hb0 hg0
        rw [← e2] at h5
        have h6 : Dv p g (monicP p R) := ⟨b, hyc, by rw [e1, ev_prod]⟩
        have h7 := h6.len hP hg m1 (by omega)
        omega
      · have hda := G.right.len hP m1 hg hg0
        have hda2 := G.left.len hP m1 hf hf0
        have hlx := div_len hP hf m1 m2.1
        have hly := div_len hP hg m1 m2.1
        generalize (divP p f (monicP p R)).1 = X at *
        generalize (divP p g (monicP p R)).1 = Y at *
        have hay : a.length + (monicP p R).length ≤ g.length := by omega
        have haf : a.length ≠ 0 → (prodP' p a f).length + 1 = a.length + f.length := fun h0 => prod_len h0 hf0
        have haf0 : a.length = 0 → (prodP' p a f).length = 0 := fun h0 => by rw [prod_nil (.inl h0)]; rfl
        -- where a is 0, b g is the divisor
        have hab : a.length = 0 → b.length = 1 ∧ g.length = (monicP p R).length := fun h0 => by
          have e1 : ev p (monicP p R) = ev p b * ev p g := by rw [ed, len_zero.1 h0, ev_nil, Px.zero_mul, Px.zero_add]
          rw [← ev_prod] at e1
          have e2 := ev_inj hp m1 (pol_prod hP hyc hg) e1
          have hb0 : b.length ≠ 0 := fun h0 => by rw [prod_nil (.inl h0)] at e2; rw [e2] at m3; simp at m3; omega
          have h5 := prod_len (p := p) hb0 hg0
          rw [← e2] at h5
          omega
        by_cases ha0 : a.length = 0
        · obtain ⟨h5, h6⟩ := hab ha0
          split
          · exact ⟨ha0, h5⟩
          · refine ⟨.inl ha0, .inr ?_⟩
            omega
        · have := haf ha0
          split
          · omega
          · refine ⟨.inr (by omega), ?_⟩
            by_cases hb0 : b.length = 0
            · exact .inl hb0
            · have := hbz hb0
              right
              omega

end Go.Proofs.YtbehihanhfmmhaaGreat.Q

namespace Go.Proofs.YtbehihanhfmmhaaGreat.Q
open M (Pr)
variable {p : Nat}

def lin (p a : Nat) : List Nat := [(p - a) % p, 1]

theorem pol_lin (h2 : 2 ≤ p) (a : Nat) : Pol p (lin p a) := by
  refine pol_of ?_ (.inr (by simp [lin]))
  intro x hx
  simp [lin] at hx
  rcases hx with rfl | rfl
  · exact Nat.mod_lt _ (by omega)
  · omega

theorem val_cons (c : Nat) (f : List Nat) (x : Nat) : valP p (c :: f) x = (valP p f x * x + c) % p := rfl
theorem val_lt (hp : 0 < p) (f : List Nat) (x : Nat) : valP p f x < p := by
  cases f with
  | nil => exact hp
  | cons c f => exact Nat.mod_lt _ hp

/-- X times a polynomial. -/
def xX (p : Nat) : Px p := mono p 1 1

theorem ev_cons (c : Nat) (f : List Nat) : ev p (c :: f) = ev p [c] + xX p * ev p f := by
  unfold ev xX mono
  rw [Px.mul_of, Px.add_of]
  congr 1
  funext k
  rw [cau_mono]
  rcases k with _ | k
  · simp [cf]
  · simp [cf]

theorem ev_const_congr {c d : Nat} (h : c % p = d % p) : ev p [c] = ev p [d] := by
  refine Px.eq fun i => ?_
  rcases i with _ | i
  · simp only [cf, List.getD_cons_zero]
    have h1 := Nat.mod_add_div c p
    have h2 := Nat.mod_add_div d p
    refine ⟨((c / p : Nat) : Int) - ((d / p : Nat) : Int), ?_⟩
    have h3 : (c : Int) = ((c % p : Nat) : Int) + (p : Int) * ((c / p : Nat) : Int) := by exact_mod_cast h1.symm
    have h4 : (d : Int) = ((d % p : Nat) : Int) + (p : Int) * ((d / p : Nat) : Int) := by exact_mod_cast h2.symm
    rw [Int.mul_sub, h]  at *
    omega
  · exact ⟨0, by simp [cf]⟩

theorem ev_const_add (c d : Nat) : ev p [c] + ev p [d] = ev p [c + d] := by
  unfold ev; rw [Px.add_of]; congr 1; funext i
  rcases i with _ | i <;> simp [cf]
theorem ev_const_mul' (c d : Nat) : ev p [c] * ev p [d] = ev p [c * d] := by
  unfold ev; rw [Px.mul_of]; congr 1; funext i
  have : cf [c] = fun k => if k = 0 then (c : Int) else 0 := by funext k; rcases k with _ | k <;> simp [cf]
  rw [this, cau_mono]
  rcases i with _ | i <;> simp [cf]
theorem ev_const_zero : ev p [0] = 0 := by
  rw [← ev_nil]; unfold ev; congr 1; funext i; rcases i with _ | i <;> simp [cf]

theorem ev_lin {a : Nat} (ha : a ≤ p) : ev p (lin p a) + ev p [a] = xX p := by
  have h1 : xX p = ev p [0, 1] := by
    rw [ev_cons, ev_const_zero, Px.zero_add, ev_one, Px.mul_one]
  rw [h1, lin, ev_cons, ev_cons 0 [1], ev_const_zero, Px.zero_add]
  rw [show ev p [(p - a) % p] + xX p * ev p [1] + ev p [a] = xX p * ev p [1] + (ev p [(p - a) % p] + ev p [a]) by ac_rfl, ev_const_add]
  have : ev p [(p - a) % p + a] = 0 := by
    rw [← ev_const_zero]
    exact ev_const_congr (by rw [Nat.mod_add_mod, show p - a + a = p by omega, Nat.mod_self, Nat.zero_mod])
  rw [this, Px.add_zero]

/-- f is its value at a, but for a multiple of x - a. -/
theorem val_div (h2 : 2 ≤ p) {a : Nat} (ha : a ≤ p) : ∀ (f : List Nat), ∃ q : List Nat, Red p q ∧ q.length ≤ f.length - 1 ∧ ev p f = ev p q * ev p (lin p a) + ev p [valP p f a]
  | [] => ⟨[], by intro x hx; simp at hx, by simp, by rw [ev_nil, Px.zero_mul, Px.zero_add]; exact ev_const_zero.symm⟩
  | c :: f => by
    obtain ⟨q, hq, hl, e⟩ := val_div h2 ha f
    by_cases hf : f = []
    · subst hf
      refine ⟨[], by intro x hx; simp at hx, by simp, ?_⟩
      rw [ev_nil, Px.zero_mul, Px.zero_add]
      refine ev_const_congr ?_
      rw [val_cons, Nat.mod_mod]; simp [valP]
    · refine ⟨valP p f a :: q, ?_, ?_, ?_⟩
      · intro x hx
        rcases List.mem_cons.1 hx with rfl | hx
        · exact val_lt (by omega) f a
        · exact hq x hx
      · have : f.length ≠ 0 := fun h0 => hf (len_zero.1 h0)
        simp; omega
      · have e2 : ev p [valP p (c :: f) a] = ev p [c] + ev p [valP p f a] * ev p [a] := by
          rw [ev_const_mul', ev_const_add]
          exact ev_const_congr (by rw [val_cons, Nat.mod_mod, Nat.add_comm])
        rw [ev_cons, e, e2, ev_cons (valP p f a) q, Px.mul_add, Px.add_mul]
        rw [show ev p [c] + (xX p * (ev p q * ev p (lin p a)) + xX p * ev p [valP p f a]) = xX p * ev p q * ev p (lin p a) + ev p [c] + ev p [valP p f a] * xX p by ac_rfl]
        rw [← ev_lin (p := p) ha, Px.mul_add]
        ac_rfl

theorem pol_trim1 (_hp : 0 < p) (v : Nat) (h : v < p) : Pol p (trim [v]) := Red.trim (by intro x hx; simp at hx; omega)
theorem trim1_len (v : Nat) : (trim [v]).length ≤ 1 := by rw [trim_length]; exact trimLen_le [v]
theorem trim1_inj {v u : Nat} (h : trim [v] = trim [u]) : v = u := by
  have := congrArg (fun l => l.getD 0 0) h
  simpa only [trim_getD, List.getD_cons_zero] using this

theorem div_lin (hP : Pr p) {a : Nat} (ha : a ≤ p) {f : List Nat} (hf : Pol p f) : (divP p f (lin p a)).2 = trim [valP p f a] := by
  have h2 := hP.1
  obtain ⟨q, hq, _, e⟩ := val_div h2 ha f
  rw [div_unique hP hf (pol_lin h2 a) (by simp [lin]) hq.trim (pol_trim1 (by omega) _ (val_lt (by omega) f a)) (by have := trim1_len (valP p f a); simp [lin]; omega) (by rw [ev_trim, ev_trim]; exact e)]

theorem val_of (hP : Pr p) {a v : Nat} (ha : a ≤ p) (hv : v < p) {f q : List Nat} (hf : Pol p f) (hq : Pol p q) (e : ev p f = ev p q * ev p (lin p a) + ev p [v]) : valP p f a = v := by
  have h2 := hP.1
  have h1 := div_unique hP hf (pol_lin h2 a) (by simp [lin]) hq (pol_trim1 (by omega) v hv) (by have := trim1_len v; simp [lin]; omega) (by rw [ev_trim]; exact e)
  have h3 := div_lin hP ha hf
  rw [h1] at h3
  exact (trim1_inj h3).symm

theorem val_div' (hP : Pr p) {a : Nat} (ha : a ≤ p) (f : List Nat) : ∃ q : List Nat, Pol p q ∧ ev p f = ev p q * ev p (lin p a) + ev p [valP p f a] := by
  obtain ⟨q, hq, _, e⟩ := val_div hP.1 ha f
  exact ⟨trim q, hq.trim, by rw [ev_trim]; exact e⟩

theorem val_sum (hP : Pr p) {a : Nat} (ha : a ≤ p) (f g : List Nat) : valP p (sumP p f g) a = (valP p f a + valP p g a) % p := by
  have hp := Pr.pos hP
  obtain ⟨q, hq, e⟩ := val_div' hP ha f
  obtain ⟨r, hr, e'⟩ := val_div' hP ha g
  refine val_of hP ha (Nat.mod_lt _ hp) (pol_sum hp f g) (pol_sum hp q r) ?_
  rw [ev_sum, ev_sum, e, e', Px.add_mul, ev_const_congr (c := (valP p f a + valP p g a) % p) (d := valP p f a + valP p g a) (Nat.mod_mod _ _), ← ev_const_add]
  ac_rfl

theorem val_prod (hP : Pr p) {a : Nat} (ha : a ≤ p) {f g : List Nat} (hf : Pol p f) (hg : Pol p g) : valP p (prodP' p f g) a = valP p f a * valP p g a % p := by
  have hp := Pr.pos hP
  obtain ⟨q, hq, e⟩ := val_div' hP ha f
  obtain ⟨r, hr, e'⟩ := val_div' hP ha g
  have hu := pol_trim1 hp _ (val_lt hp f a)
  refine val_of hP ha (Nat.mod_lt _ hp) (pol_prod hP hf hg) (q := sumP p (prodP' p q g) (prodP' p (trim [valP p f a]) r)) (pol_sum hp _ _) ?_
  rw [ev_sum, ev_prod, ev_prod, ev_prod, ev_trim, Px.add_mul, ev_const_congr (c := valP p f a * valP p g a % p) (d := valP p f a * valP p g a) (Nat.mod_mod _ _), ← ev_const_mul']
  rw [show ev p q * ev p g * ev p (lin p a) + ev p [valP p f a] * ev p r * ev p (lin p a) + ev p [valP p f a] * ev p [valP p g a] = ev p q * ev p (lin p a) * ev p g + ev p [valP p f a] * (ev p r * ev p (lin p a) + ev p [valP p g a]) by rw [Px.mul_add]; ac_rfl]
  rw [← e', ← Px.add_mul, ← e]

theorem val_dif (hP : Pr p) {a : Nat} (ha : a ≤ p) {f g : List Nat} (_hf : Pol p f) (hg : Pol p g) (h : valP p f a = valP p g a) : valP p (difP p f g) a = 0 := by
  have hp := Pr.pos hP
  obtain ⟨q, hq, e⟩ := val_div' hP ha f
  obtain ⟨r, hr, e'⟩ := val_div' hP ha g
  refine val_of hP ha hp (pol_dif hp f g) (pol_dif hp q r) ?_
  rw [ev_dif hp f hg.red, ev_dif hp q hr.red, e, e', h, Px.sub_mul, ev_const_zero, Px.add_zero, Px.sub_def, Px.neg_add_rev]
  rw [show ev p q * ev p (lin p a) + ev p [valP p g a] + (-(ev p r * ev p (lin p a)) + -ev p [valP p g a]) = ev p q * ev p (lin p a) + -(ev p r * ev p (lin p a)) + (ev p [valP p g a] + -ev p [valP p g a]) by ac_rfl, Px.add_neg, Px.add_zero, Px.sub_def]

theorem val_lin (hP : Pr p) {a x : Nat} (_ha : a ≤ p) (_hx : x < p) : valP p (lin p a) x = (x + (p - a)) % p := by
  have h2 := hP.1
  simp only [lin, valP, List.foldr_cons, List.foldr_nil, Nat.zero_mul, Nat.zero_add]
  rw [Nat.mod_eq_of_lt (show 1 < p by omega), Nat.one_mul, Nat.add_mod_mod]

theorem val_lin_ne (hP : Pr p) {a x : Nat} (ha : a < p) (hx : x < p) (h : x ≠ a) : valP p (lin p a) x ≠ 0 := by
  rw [val_lin hP (by omega) hx]
  intro h0
  rcases Nat.lt_or_ge x a with h1 | h1
  · rw [Nat.mod_eq_of_lt (by omega)] at h0; omega
  · rw [show x + (p - a) = (x - a) + p by omega, Nat.add_mod_right, Nat.mod_eq_of_lt (by omega)] at h0; omega

/-- As many different roots as the length: then it is 0. -/
theorem roots_zero (hP : Pr p) : ∀ (xs : List Nat) {f : List Nat}, Pol p f → f.length ≤ xs.length → xs.Nodup → (∀ x ∈ xs, x < p ∧ valP p f x = 0) → f = []
  | [], f, _, hl, _, _ => len_zero.1 (by simpa using hl)
  | x :: xs, f, hf, hl, hn, hx => by
    have hp := Pr.pos hP
    have h2 := hP.1
    obtain ⟨hxl, hx0⟩ := hx x (List.mem_cons_self ..)
    obtain ⟨q, hq, e⟩ := val_div' hP (by omega : x ≤ p) f
    rw [hx0, ev_const_zero, Px.add_zero] at e
    have e' : f = prodP' p q (lin p x) := ev_inj hp hf (pol_prod hP hq (pol_lin h2 x)) (by rw [ev_prod]; exact e)
    by_cases h0 : q.length = 0
    · rw [e', prod_nil (.inl h0)]
    · exfalso
      have hl2 := prod_len (p := p) h0 (g := lin p x) (by simp [lin])
      rw [← e'] at hl2
      simp [lin] at hl2 hl
      have hqz := roots_zero hP xs hq (by omega) (List.nodup_cons.1 hn).2 (fun y hy => by
        obtain ⟨hyl, hy0⟩ := hx y (List.mem_cons_of_mem _ hy)
        refine ⟨hyl, ?_⟩
        rw [e', val_prod hP (by omega) hq (pol_lin h2 x)] at hy0
        rcases (fld_of hP).2 _ _ (val_lt hp q y) (val_lt hp _ y) hy0 with h3 | h3
        · exact h3
        · exact absurd h3 (val_lin_ne hP hxl hyl (fun h4 => (List.nodup_cons.1 hn).1 (h4 ▸ hy))))
      rw [hqz] at h0
      exact h0 rfl

/-- Polynomials that agree at as many points as they are long are the same. -/
theorem interp_unique (hP : Pr p) {f g xs : List Nat} (hf : Pol p f) (hg : Pol p g) (hfl : f.length ≤ xs.length) (hgl : g.length ≤ xs.length) (hn : xs.Nodup) (h : ∀ x ∈ xs, x < p ∧ valP p f x = valP p g x) : f = g := by
  have hp := Pr.pos hP
  have h1 := roots_zero hP xs (pol_dif hp f g) (by have := dif_len hp (f := f) (g := g); omega) hn (fun x hx => ⟨(h x hx).1, val_dif hP (by have := (h x hx).1; omega) hf hg (h x hx).2⟩)
  have h2 := ev_dif hp f hg.red
  rw [h1, ev_nil] at h2
  exact ev_inj hp hf hg (Px.sub_eq_zero.1 h2.symm)

end Go.Proofs.YtbehihanhfmmhaaGreat.Q
