/- The walks over rootUp, logOf, Log. -/
import Derived.Test.YtldfbadcigdbkaaWalkRoot
import Derived.Test.YtldfbadcigdbkaaLog
import Derived.Maps.OwnSet
namespace Go.Proofs.Ytldfbadcigdbkaa
open Go.RowKit Go.Maps

set_option maxHeartbeats 400000 in
theorem rootUp_is (n W : Nat) (w : World) (hW1 : 1 ≤ W) (hW2 : W ≤ 46341) (h : Hid (n ≤ W * W ∧ ∀ v, 1 ≤ v → v < W → v * v < n)) :
    Calls Try.prog 55 #[.int .i64 n] w fun x w' => x = .returned (.int .i64 W) ∧ w = w' := by
  go_enter Try.func55, Try.ntmps55
  go_wp2
  go_loop [3] (fun x => ∃ v : Nat, x = .int .i64 v ∧ 1 ≤ v ∧ v ≤ W) (fun x => W - (intOf x).toNat)
  case atStart => exact ⟨1, rfl, by omega, hW1⟩
  case round =>
    obtain ⟨v, rfl, hv1, hv⟩ := hrel
    have hsq := sq_bd v (by omega) (by omega)
    have ec := Lib.hid (show (v : Int) * (v : Int) = ((v * v : Nat) : Int) by simp)
    by_cases hlt : v < W
    · have h1 := h.out.2 v hv1 hlt
      have ht : decide ((v : Int) * (v : Int) < (n : Int)) = true := by rw [ec.out]; simp; exact_mod_cast h1
      have ht2 : (v : Int) * (v : Int) < (n : Int) := by simpa using ht
      clear h1 ht
      go_wp2
      go_round
      case rel => exact ⟨v + 1, by go_num, by omega, by omega⟩
      case measure => simp [intOf]; omega
    · obtain rfl : v = W := by omega
      have h1 := h.out.1
      have ht2 : ¬ (v : Int) * (v : Int) < (n : Int) := by rw [ec.out]; omega
      clear h1
      go_wp2
      go_ret
      exact ⟨rfl, rfl⟩

/-- The map of the small steps. -/
structure Steps {H : Type} (g p : Nat) (D : DataW H) (n : Nat) : Prop where
  map : IsMap D
  has : ∀ x : Int, Maps.has D (.int .i64 x) = true ↔ ∃ j, j < n ∧ x = ((g ^ j % p : Nat) : Int)
  val : ∀ j, j < n → D.atKey (.int .i64 ((g ^ j % p : Nat) : Int)) (.lit (.int .i64 0)) = .lit (.int .i64 j)

theorem Steps.empty {H : Type} (g p : Nat) : Steps g p (.map [] : DataW H) 0 :=
  ⟨isMap_empty, fun x => by simp [Maps.has], fun j hj => by omega⟩

theorem Steps.put {H : Type} {g p o n : Nat} {D : DataW H} (h : Steps g p D n) (ho : M.IsOrd g o p) (hn : n < o) : Steps g p (D.put (.int .i64 ((g ^ n % p : Nat) : Int)) (.lit (.int .i64 n))) (n + 1) := by
  have hk : WideAt.IsKeyLit (.int .i64 ((g ^ n % p : Nat) : Int)) := by simp [WideAt.IsKeyLit]
  refine ⟨h.map.put _ _, fun x => ?_, fun j hj => ?_⟩
  · by_cases hx : x = ((g ^ n % p : Nat) : Int)
    · subst hx
      rw [has_put_same h.map hk]
      exact ⟨fun _ => ⟨n, by omega, rfl⟩, fun _ => rfl⟩
    · rw [has_put_other (by simpa using hx), h.has]
      constructor
      · rintro ⟨j, hj, e⟩; exact ⟨j, by omega, e⟩
      · rintro ⟨j, hj, e⟩
        refine ⟨j, ?_, e⟩
        have : j ≠ n := fun e1 => hx (by rw [e, e1])
        omega
  · by_cases hjn : j = n
    · subst hjn
      exact atKey_put_same h.map hk _ _
    · have hne : ((g ^ j % p : Nat) : Int) ≠ ((g ^ n % p : Nat) : Int) := fun e => hjn (ho.eq_of (by omega) hn (by exact_mod_cast e))
      rw [atKey_put_other (by simpa using hne)]
      exact h.val j (by omega)

theorem law3 : Keyed Try.prog 3 := int_keyed Try.underlying3
theorem zero3 (w : World) : (zeroValue 3).run Try.prog w = .ok (.int .i64 0) w := by kernel_rfl
theorem makeMap_hint (n : Int) (w : World) : (Instr.makeMap 69 (some (.int .i64 n))).run Try.prog w = .ok (.map (some w.heap.size)) (w.alloc (.map #[] 0)) := by
  simp [Instr.makeMap, run_underlying Try.underlying69]; rfl

theorem lit_inj {H : Type} {a b : Int} (h : (DataW.lit (.int .i64 a) : DataW H) = .lit (.int .i64 b)) : a = b := by
  injection h with h; injection h

set_option maxRecDepth 100000 in
set_option maxHeartbeats 1000000 in
theorem logOf_is (g a p o k : Nat) (w : World) (hp : 2 ≤ p) (hp2 : p ≤ 2147483647) (hg : g < p) (ha : a < p) (ho1 : 1 ≤ o) (ho2 : o ≤ 2147483647) (hk : k < o) (ho : Hid (M.IsOrd g o p)) (hak : Hid (a = g ^ k % p)) :
    Calls Try.prog 42 #[.int .i64 g, .int .i64 a, .int .i64 p, .int .i64 o] w fun x w' => x = .returned (.int .i64 k) ∧ Below w.heap.size w w' := by
  obtain ⟨W, hW1, hW3, hW4⟩ := M.exists_root o ho1
  have hW2 := M.root_le ho2 hW4
  have hWo := M.root_self ho1 hW4
  have HW := Lib.hid (And.intro hW3 hW4)
  clear hW3 hW4
  have hmm := fun n w => makeMap_hint n w
  go_enter Try.func42, Try.ntmps42
  go_wp2_with (fail)
  go_step3
  go_wp2_with (go_at_call 55; refine (rootUp_is o W _ (by omega) (by omega) HW).mono ?_; rintro e w' ⟨rfl, rfl⟩)
  go_loopw [11, 23] (fun st jv wr => ∃ (j S : Nat) (D : DataW Unit), st = .int .i64 S ∧ jv = .int .i64 j ∧ j ≤ W ∧ S < p ∧ Hid (S = g ^ j % p) ∧ wr.ownsMap Try.prog 3 (plainElem Try.prog 3) w.heap.size j D ∧ Hid (Steps g p D j) ∧ Below w.heap.size w wr) (fun _ jv _ => W - (intOf jv).toNat)
  case atStart => exact ⟨0, 1, .map [], rfl, rfl, by omega, by omega, by show _ = _; rw [Nat.pow_zero]; exact (M.mod_of_one_lt hp).symm, World.ownsMap_made _ _ _ _, Steps.empty g p, (Below.refl _ _).alloc (Nat.le_refl _) _⟩
  case round =>
    obtain ⟨j, S, D, rfl, rfl, hj, hS, HS, hown, hst, hB⟩ := hrel
    have hBs := hB.size
    by_cases hlt : j < W
    · have wfS : (Lit.int .i64 (S : Int)).wf = true := WalkArith.wf_i64 (by omega)
      have wfj : (Lit.int .i64 (j : Int)).wf = true := WalkArith.wf_i64 (by omega)
      have hb := M.mul_bd S g p (by omega) (by omega) (by omega) (by omega) (by omega)
      have hSt := Lib.hid (hst.out.put ho.out (n := j) (by omega))
      go_wp2_with (at_mapUpdate; refine wpList_mapUpdate_own _ rfl _ _ _ 69 rfl 3 3 law3 Try.underlying69 _ w.heap.size j _ rfl hown (by unfold maxLen; omega) _ _ _ rfl rfl (keyOf_int_mk Try.underlying3 wfS) _ [] (plainElem_int Try.underlying3 wfj) ?_; intro w1 hown1 hgrow1)
      have HO := Lib.hid (And.intro hown1 hgrow1)
      clear hown1 hgrow1
      go_roundw
      case rel =>
        refine ⟨j + 1, S * g % p, _, congrArg _ (mulmod_cast S g p), by go_num, by omega, Nat.mod_lt _ (by omega), ?_, HO.out.1, ?_, hB.grown HO.out.2 hB.size (fun b hb => by cases hb; exact Nat.le_refl _)⟩
        · show _ = _; rw [HS.out, Nat.mod_mul_mod, ← Nat.pow_succ]
        · have := hSt.out; rw [← HS.out] at this; exact this
      case measure => simp [intOf]; omega
    · obtain rfl : W = j := by omega
      have hcop : Nat.gcd (S : Int).toNat (p : Int).toNat = 1 := by
        simp only [Int.toNat_natCast]
        have h1 := M.coprime_of_pow ho.out.pos ho.out.one
        have h2 : Nat.Coprime (g ^ W) p := by simpa using Nat.Coprime.pow_left W h1
        rw [HS.out, ← Nat.gcd_rec, Nat.gcd_comm]; exact h2
      obtain ⟨bi, hb0, hbp, hbi⟩ := M.exists_inv (a := (S : Int)) (m := (p : Int)) (by omega) (by omega) hcop
      obtain ⟨b, rfl⟩ := Int.eq_ofNat_of_zero_le hb0
      have HBI := Lib.hid hbi
      have hback : Hid (g ^ W * b % p = 1 % p) := by
        show _ = _
        have h3 : S * b % p = 1 % p := by exact_mod_cast hbi
        rw [HS.out, Nat.mod_mul_mod] at h3
        exact h3
      clear hcop hbi hb0
      go_wp2_with (go_at_call 45; refine (invert_any S p b _ (by omega) (by omega) (by omega) (by omega) (by omega) HBI).mono ?_; rintro e w' ⟨rfl, rfl⟩)
      go_step3
      go_wp2_with (fail)
      go_loop [1, 14, 39] (fun x l iv => ∃ (i y : Nat), x = .int .i64 y ∧ iv = .int .i64 i ∧ y < p ∧ i ≤ W ∧ l = .int .i64 0 ∧ Hid (i * W ≤ k ∧ y = g ^ (k - i * W) % p)) (fun _ _ iv => W - (intOf iv).toNat)
      case atStart => exact ⟨0, a, rfl, rfl, ha, by omega, rfl, by omega, by simpa using hak.out⟩
      case round =>
        obtain ⟨i, y, rfl, rfl, hy, hi, rfl, HI⟩ := hrel
        have hiW : i < W := by
          refine Classical.byContradiction fun hc => ?_
          obtain rfl : i = W := by omega
          have h1 := HI.out.1
          have h2 := HW.out.1
          omega
        have wfy : (Lit.int .i64 (y : Int)).wf = true := WalkArith.wf_i64 (by omega)
        have hmb := M.mul_bd y b p (by omega) (by omega) (by omega) (by omega) (by omega)
        by_cases hlt : k - i * W < W
        · obtain ⟨c0, hc0⟩ : ∃ c0, c0 = k - i * W := ⟨_, rfl⟩
          have hle := HI.out.1
          have hkb : Hid ((i : Int) * (W : Int) + (c0 : Int) = (k : Int)) := by
            show _ = _
            rw [show (i : Int) * (W : Int) = ((i * W : Nat) : Int) by simp]; omega
          have hmul : 0 ≤ (i : Int) * (W : Int) ∧ (i : Int) * (W : Int) ≤ 2147483647 := by
            rw [show (i : Int) * (W : Int) = ((i * W : Nat) : Int) by simp]; omega
          have hc1 : c0 ≤ 2147483647 := by omega
          have hval : Hid (D.atKey (.int .i64 (y : Int)) (.lit (.int .i64 0)) = .lit (.int .i64 (c0 : Int))) := by
            have := hst.out.val (k - i * W) hlt
            rw [← HI.out.2, ← hc0] at this
            exact this
          have hhas := (hst.out.has y).2 ⟨k - i * W, hlt, by rw [HI.out.2]⟩
          clear hc0 hle
          go_wp2_with (at_lookup; refine wpList_lookup_own_ok_int _ rfl _ _ 69 rfl 3 3 .i64 law3 Try.underlying69 Try.underlying3 (zero3 _) w.heap.size W _ rfl hown _ _ rfl (keyOf_int_mk Try.underlying3 wfy) ?_; intro c hat hwc; obtain rfl : c = (c0 : Int) := lit_inj (hat.symm.trans hval.out); clear hat hwc)
          try rw [Exit.noGoto_ret]
          go_ret
          exact ⟨ret_i hkb.out, hB⟩
        · have hhas : Maps.has D (.int .i64 (y : Int)) = false := by
            rw [Bool.eq_false_iff]
            intro hc
            obtain ⟨j, hj, he⟩ := (hst.out.has y).1 hc
            have hy2 := HI.out.2
            have := ho.out.eq_of (i := k - i * W) (j := j) (by omega) (by omega) (by rw [← hy2]; exact_mod_cast he)
            omega
          have hnext : Hid ((i + 1) * W ≤ k ∧ y * b % p = g ^ (k - (i + 1) * W) % p) := by
            have h1 := HI.out.1
            have h2 : (i + 1) * W = i * W + W := by rw [Nat.add_mul, Nat.one_mul]
            refine ⟨by omega, ?_⟩
            rw [HI.out.2, M.step_back hback.out (by omega), h2, Nat.sub_sub]
          have hlt' : y * b % p < p := Nat.mod_lt _ (by omega)
          clear hlt
          go_wp2_with (at_lookup; refine wpList_lookup_own_ok_int _ rfl _ _ 69 rfl 3 3 .i64 law3 Try.underlying69 Try.underlying3 (zero3 _) w.heap.size W _ rfl hown _ _ rfl (keyOf_int_mk Try.underlying3 wfy) ?_; intro c hat hwc; clear hat)
          go_round
          case rel => exact ⟨i + 1, y * b % p, congrArg _ (mulmod_cast y b p), by go_num, hlt', by omega, rfl, hnext.out⟩
          case measure => simp [intOf]; omega

end Go.Proofs.Ytldfbadcigdbkaa
