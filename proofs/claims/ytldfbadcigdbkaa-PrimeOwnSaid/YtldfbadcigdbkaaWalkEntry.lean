/- The walks over isWitness and isEntry. -/
import Derived.Test.YtldfbadcigdbkaaWalkCheck
namespace Go.Proofs.Ytldfbadcigdbkaa
open Go.RowKit Go.Maps

theorem ints_toNat (F : List Int) (h : ∀ q ∈ F, 0 ≤ q) : intsZ F = ints (F.map Int.toNat) := by
  unfold intsZ ints
  rw [List.map_map]
  refine List.map_congr_left fun q hq => ?_
  have := h q hq
  simp only [Function.comp_apply]
  congr 1
  omega

theorem powB_nat {W P q : Int} (hP : 1 ≤ P) (hq : 0 ≤ q) : (!(M.powB W ((P - 1) / q) P)) = (W.toNat ^ ((P.toNat - 1) / q.toNat) % P.toNat != 1) := by
  have e1 : ((P - 1) / q).toNat = (P.toNat - 1) / q.toNat := by
    obtain ⟨a, ha⟩ := Int.eq_ofNat_of_zero_le (show 0 ≤ P - 1 by omega)
    obtain ⟨b, rfl⟩ := Int.eq_ofNat_of_zero_le hq
    rw [ha, show ((a : Int) / (b : Int)) = ((a / b : Nat) : Int) from rfl, Int.toNat_natCast, Int.toNat_natCast]
    congr 1; omega
  unfold M.powB M.pw
  rw [e1, Bool.eq_iff_iff]
  simp only [Bool.not_eq_true', beq_eq_false_iff_ne, bne_iff_ne, ne_eq]
  omega

theorem gensI_genB {W P : Int} {F : List Int} (hP : 1 ≤ P) (h : ∀ q ∈ F, 0 ≤ q) : M.gensI W P F = genB W.toNat P.toNat (F.map Int.toNat) := by
  unfold M.gensI genB
  rw [List.all_map, Bool.eq_iff_iff, List.all_eq_true, List.all_eq_true]
  constructor
  · intro h1 q hq; have := h1 q hq; rw [powB_nat hP (h q hq)] at this; exact this
  · intro h1 q hq; have := h1 q hq; rw [powB_nat hP (h q hq)]; exact this

def entV (P W : Int) (v : Value) : Value := .agg #[.int .i64 P, .int .i64 W, v]

set_option maxRecDepth 100000 in
set_option maxHeartbeats 1000000 in
theorem isWitness_is (P W : Int) (v : Value) (F : List Int) (t : Bool) (w : World) (hP : 3 ≤ P) (hP2 : P ≤ 2147483647) (hW : 2 ≤ W) (hW2 : W < P) (hr : Hid (Rd w v 1 F.length (intsZ F))) (hlen : F.length ≤ 1000000) (hF : Hid (∀ q ∈ F, 1 ≤ q ∧ q ≤ 2147483647))
    (ht : Hid ((M.powB W (P - 1) P && M.gensI W P F) = t)) :
    Calls Try.prog 68 #[entV P W v] w fun x w' => x = .returned (.bool t) ∧ Below w.heap.size w w' := by
  unfold entV
  obtain ⟨X, hX⟩ : ∃ X, X = M.pw W (P - 1) P := ⟨_, rfl⟩
  have HX := Lib.hid hX
  have ht' := ht.out
  rw [M.powB, ← hX] at ht'
  have HT := Lib.hid ht'
  clear ht' hX ht
  go_enter Try.func68, Try.ntmps68
  go_wp2_with (fail)
  have hB := (Below.refl w.heap.size w).alloc (Nat.le_refl _) (.cells #[.int .i64 P, .int .i64 W, v] 39)
  have HB := Lib.hid hB
  clear hB
  refine (raise_any W (P - 1) P _ (by omega) (by omega) (by omega) (by omega) (by omega)).mono ?_
  rintro e w' ⟨rfl, rfl⟩
  rw [← HX.out]
  by_cases h1 : X = 1
  · have h2 : (X != 1) = false := by simp [h1]
    have hT := HT.out
    rw [show (X == 1) = true by simp [h1], Bool.true_and, gensI_genB (by omega) (fun q hq => by have := hF.out q hq; omega)] at hT
    have HT2 := Lib.hid hT
    have hr2 : Hid (Rd (w.alloc (.cells #[.int .i64 P, .int .i64 W, v] 39)) v 1 (F.map Int.toNat).length (ints (F.map Int.toNat))) := by
      rw [← ints_toNat F (fun q hq => by have := hF.out q hq; omega), List.length_map]
      exact hr.out.below HB.out (Nat.le_refl _)
    have hF2 : Hid (∀ q ∈ F.map Int.toNat, 1 ≤ q ∧ q ≤ 2147483647) := by
      intro q hq
      obtain ⟨x, hx, rfl⟩ := List.mem_map.1 hq
      have := hF.out x hx
      omega
    have hWn : ((W.toNat : Nat) : Int) = W := by omega
    have hPn : ((P.toNat : Nat) : Int) = P := by omega
    have HWn := Lib.hid hWn
    have HPn := Lib.hid hPn
    clear hWn hPn h1 hT
    go_wp2_with (fail)
    have hg := generates_is W.toNat P.toNat v (F.map Int.toNat) t _ hr2 (by omega) (by omega) (by omega) (by rw [List.length_map]; exact hlen) hF2 HT2
    rw [HWn.out, HPn.out] at hg
    refine hg.mono ?_
    rintro e w' ⟨rfl, rfl⟩
    go_wp2_with (fail)
    go_ret
    exact ⟨rfl, HB.out⟩
  · have h2 : (X != 1) = true := by simp [h1]
    have hT := HT.out
    rw [show (X == 1) = false by simp [h1], Bool.false_and] at hT
    have HT2 := Lib.hid hT
    clear h1 hT
    go_wp2_with (fail)
    go_ret
    exact ⟨ret_b HT2.out, HB.out⟩

theorem own_below {H : Type} {P : Program} {k : TypeId} {R : Value → Option (DataW H × List MemPlace)} {w w' : World} {b n B : Nat} {D : DataW H} (h : w.ownsMap P k R b n D) (hB : Below B w w') (hb : b < B) : w'.ownsMap P k R b n D := by
  obtain ⟨es, clock, h1, h2, h3, h4⟩ := h
  exact ⟨es, clock, (hB.block b hb).trans h1, h2, h3, h4⟩

theorem Rd.lenv {w : World} {v : Value} {n : Nat} {xs : List Value} (h : Rd w v 1 n xs) : ∃ a cap, v = .slice a n cap := by
  obtain ⟨_, a, cap, hv, _⟩ := h
  exact ⟨a, cap, hv⟩

theorem areF_mem {S : List Int} (hS : ∀ q ∈ S, 2 ≤ q ∧ q ≤ 2147483647) : ∀ {F : List Int} {last rest : Int}, M.areF S last rest F = true → ∀ q ∈ F, 1 ≤ q ∧ q ≤ 2147483647
  | [], _, _, _, q, hq => by cases hq
  | x :: F, last, rest, h, q, hq => by
    rw [M.areF] at h
    split at h
    · cases h
    · rename_i hc
      rcases List.mem_cons.1 hq with rfl | hq
      · have h1 : q ∈ S := Classical.byContradiction fun h1 => hc (.inr (.inl h1))
        have := hS q h1
        omega
      · exact areF_mem hS h q hq

set_option maxRecDepth 100000 in
set_option maxHeartbeats 4000000 in
theorem isEntry_is {H : Type} (P W : Int) (v : Value) (F S : List Int) (b m : Nat) (D : DataW H) (t : Bool) (w : World) (hP : 2 ≤ P) (hP2 : P ≤ 2147483647) (hWw : (Lit.int .i64 W).wf = true) (hr : Hid (Rd w v 1 F.length (intsZ F))) (hlen : F.length ≤ 1000000) (hF : Hid (FOk F))
    (hown : Hid (w.ownsMap Try.prog 3 (plainElem Try.prog 4) b m D)) (hS : Hid (SetI D S)) (hS2 : Hid (∀ q ∈ S, 2 ≤ q ∧ q ≤ 2147483647)) (ht : Hid (M.entP S ⟨P, W, F⟩ = t)) :
    Calls Try.prog 51 #[entV P W v, .map (some b)] w fun x w' => x = .returned (.bool t) ∧ Below w.heap.size w w' := by
  have hb64 := bounds_i64 hWw
  have hE := ht.out
  unfold M.entP at hE
  dsimp only at hE
  obtain ⟨a, cap, hv⟩ := hr.out.lenv
  subst hv
  unfold entV
  have hB := (Below.refl w.heap.size w).alloc (Nat.le_refl _) (.cells #[.int .i64 P, .int .i64 W, .slice a F.length cap] 39)
  have hr2 := Lib.hid (hr.out.below hB (Nat.le_refl _))
  have ho2 := Lib.hid (own_below hown.out hB hown.out.lt)
  have HFl := Lib.hid (rfl : F.length = F.length)
  obtain ⟨n, hn⟩ : ∃ n, n = F.length := ⟨_, rfl⟩
  have HN := Lib.hid hn
  rw [← hn] at hB hr2 ho2
  have HB := Lib.hid hB
  rw [← hn] at hlen
  clear hB ht
  by_cases h2 : P = 2
  · rw [if_pos h2] at hE
    have hb1 : (P == 2) = true := by simp [h2]
    by_cases hw1 : W = 1
    · have hb2 : (W == 1) = true := by simp [hw1]
      rw [hb2, ← hn] at hE
      clear h2 hw1
      rw [← hn]
      clear hn
      by_cases hl : n = 0
      · have hb3 : (((n : Nat) : Int) == 0) = true := by simp [hl]
        have HT := Lib.hid (show true = t by rw [← hE, hl]; rfl)
        clear hE hl
        go_enter Try.func51, Try.ntmps51
        go_wp2_with (fail)
        go_ret
        exact ⟨ret_b HT.out, HB.out⟩
      · have hb3 : (((n : Nat) : Int) == 0) = false := by simp [hl]
        have HT := Lib.hid (show false = t by rw [← hE]; simp [hl])
        clear hE hl
        go_enter Try.func51, Try.ntmps51
        go_wp2_with (fail)
        go_ret
        exact ⟨ret_b HT.out, HB.out⟩
    · have hb2 : (W == 1) = false := by simp [hw1]
      rw [hb2] at hE
      have HT := Lib.hid (show false = t by rw [← hE]; rfl)
      rw [← hn]
      clear hn hE h2 hw1
      go_enter Try.func51, Try.ntmps51
      go_wp2_with (fail)
      go_ret
      exact ⟨ret_b HT.out, HB.out⟩
  · rw [if_neg h2] at hE
    have hb1 : (P == 2) = false := by simp [h2]
    rw [← hn]
    clear hn
    by_cases hc : P % 2 = 0 ∨ W < 2 ∨ P ≤ W
    · rw [if_pos hc] at hE
      have HT := Lib.hid hE
      clear hE h2
      by_cases hc1 : P % 2 = 0
      · have hb2 : (P % 2 == 0) = true := by simp [hc1]
        clear hc hc1
        go_enter Try.func51, Try.ntmps51
        go_wp2_with (fail)
        go_ret
        exact ⟨ret_b HT.out, HB.out⟩
      · have hb2 : (P % 2 == 0) = false := by simp [hc1]
        by_cases hc2 : W < 2
        · have hb3 : decide (W < 2) = true := by simp [hc2]
          clear hc hc1 hc2
          go_enter Try.func51, Try.ntmps51
          go_wp2_with (fail)
          go_ret
          exact ⟨ret_b HT.out, HB.out⟩
        · have hb3 : decide (W < 2) = false := by simp; omega
          have hb4 : decide (P ≤ W) = true := by simp; omega
          clear hc hc1 hc2
          go_enter Try.func51, Try.ntmps51
          go_wp2_with (fail)
          go_ret
          exact ⟨ret_b HT.out, HB.out⟩
    · rw [if_neg hc] at hE
      have hb2 : (P % 2 == 0) = false := by simp; omega
      have hb3 : decide (W < 2) = false := by simp; omega
      have hb4 : decide (P ≤ W) = false := by simp; omega
      have hW2 : 2 ≤ W := by omega
      have hWP : W < P := by omega
      have hP3 : 3 ≤ P := by omega
      clear hc h2
      have hlt := hown.out.lt
      cases hA : M.areF S 1 (P - 1) F with
      | false =>
        rw [hA, Bool.false_and] at hE
        have HT := Lib.hid hE
        have HA := Lib.hid hA
        clear hA hE
        go_enter Try.func51, Try.ntmps51
        go_wp2_with (fail)
        refine (areFactors_is (P - 1) _ F S b m D false _ (by omega) (by omega) (by rw [← HN.out]; exact hr2) hF (by rw [← HN.out]; exact hlen) ho2 hS hS2 HA).mono ?_
        rintro e w' ⟨rfl, rfl⟩
        go_wp2_with (fail)
        go_ret
        exact ⟨ret_b HT.out, HB.out⟩
      | true =>
        rw [hA, Bool.true_and] at hE
        have HT := Lib.hid hE
        have HA := Lib.hid hA
        clear hA hE
        go_enter Try.func51, Try.ntmps51
        go_wp2_with (fail)
        refine (areFactors_is (P - 1) _ F S b m D true _ (by omega) (by omega) (by rw [← HN.out]; exact hr2) hF (by rw [← HN.out]; exact hlen) ho2 hS hS2 HA).mono ?_
        rintro e w' ⟨rfl, rfl⟩
        go_wp2_with (fail)
        refine (isWitness_is P W _ F t _ (by omega) (by omega) (by omega) (by omega) (by rw [← HN.out]; exact hr2) (by rw [← HN.out]; exact hlen) (Lib.hid (areF_mem hS2.out HA.out)) HT).mono ?_
        rintro e w' ⟨rfl, hB2⟩
        have HB2 := Lib.hid hB2
        clear hB2
        go_wp2_with (fail)
        go_ret
        exact ⟨rfl, HB.out.trans (HB2.out.mono HB.out.size)⟩

end Go.Proofs.Ytldfbadcigdbkaa
