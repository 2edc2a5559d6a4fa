/- For any field and degree, Count returns the number of monic irreducible polynomials, ErrFull if it exceeds the limit, or ErrArg. No condition. -/
import Derived.Test.YtgnpohapmijfiaaG10
import Derived.Test.YtgnpohapmijfiaaG12
import Derived.Test.YtgnpohapmijfiaaG11
import Derived.ProofKit
import Derived.OpenShut
namespace Go.Proofs.Ytgnpohapmijfiaa.polyCounts
open Go.ChangeShapes Go.WideShapes Go.ChangeAt Go.RowKit

theorem own : ownKnob Try.prog.godebug = none := by kernel_rfl


set_option maxRecDepth 100000 in
set_option maxHeartbeats 4000000 in
theorem walk (p n : Int) (w : World) :
    Calls Try.prog 8 #[.int .i64 p, .int .i64 n] w fun e w' => e = .returned (.bool true) ∧ Below w.heap.size w w' := by
  go_enter Try.func8, Try.ntmps8
  by_cases hok : FieldI p ∧ 1 ≤ n ∧ n ≤ 32
  · obtain ⟨hf, hn1, hn2⟩ := hok
    obtain ⟨q, rfl⟩ := Int.eq_ofNat_of_zero_le (show 0 ≤ p by have := hf.1; omega)
    obtain ⟨m, rfl⟩ := Int.eq_ofNat_of_zero_le (show 0 ≤ n by omega)
    have HF := Lib.hid hf
    have hq1 : 2 ≤ q := by have := hf.1; omega
    have hq2 : q ≤ 1021 := by have := hf.2.1; omega
    have HP : Hid (M.Pr q) := by have := hf.2.2; rw [Int.toNat_natCast] at this; exact this
    have hm1 : 1 ≤ m := by omega
    have hm2 : m ≤ 32 := by omega
    have hd1 : decide ((m : Int) < 1) = false := by rw [decide_eq_false_iff_not]; omega
    have hd2 : decide ((33 : Int) ≤ (m : Int)) = false := by rw [decide_eq_false_iff_not]; omega
    have hc := Q.cnt_is hq1 hq2 hm1 hm2
    clear hf hn1 hn2
    by_cases hbig : q ^ m ≤ 2305843009213693952
    · rw [Q.cntOk, if_pos hbig, Bool.and_eq_true, decide_eq_true_iff] at hc
      obtain ⟨hc0, hc⟩ := hc
      have HBIG := Lib.hid hbig
      have HC0 := Lib.hid hc0
      by_cases h59 : q ^ m ≤ 576460752303423488
      · rw [if_pos h59, decide_eq_true_iff] at hc
        have H59 := Lib.hid h59
        by_cases hsm : Q.countP q m m ≤ 9007199254740992
        · have HSM := Lib.hid hsm
          have HT : Hid (decide ((9007199254740992 : Int) < Q.sumAt q m m / (m : Int)) = false) := by show _ = _; rw [decide_eq_false_iff_not, ← hc]; omega
          obtain ⟨c, hcc⟩ : ∃ c, c = Q.countP q m m := ⟨_, rfl⟩
          have HCC := Lib.hid hcc
          have HCS : Hid (Q.sumAt q m m / (m : Int) = c) := by show _ = _; rw [hcc, hc]
          clear hbig h59 hsm hc hc0 hcc
          go_wp2_with (fail)
          refine (Count_ok q m _ HP hq2 hm1 hm2 H59 HSM).mono ?_
          rintro e w1 ⟨rfl, hB⟩
          rw [← HCC.out]
          have HB1 := Lib.hid hB
          clear hB
          go_wp2_with (fail)
          refine (rField_is (q : Int) true _ ⟨fun _ => rfl, fun _ => HF.out⟩).mono ?_
          rintro e w2 ⟨rfl, rfl⟩
          go_wp2_with (fail)
          refine (rCount_is q m _ hq1 hq2 hm1 hm2 HBIG HC0 false HT).mono ?_
          rintro e w3 ⟨rfl, hB⟩
          have HB3 := Lib.hid (HB1.out.trans (hB.mono HB1.out.size))
          clear hB
          simp only [Bool.false_eq_true, if_false, Bool.not_false]
          rw [HCS.out]
          go_wp2_with (fail)
          refine (awake_is _).mono ?_
          rintro e w9 ⟨rfl, hB⟩
          have HB9 := Lib.hid (HB3.out.trans (hB.mono HB3.out.size))
          clear hB
          go_wp2_with (fail)
          go_ret
          exact ⟨rfl, HB9.out⟩
        · have HSM : Hid (9007199254740992 < Q.countP q m m) := by show _ < _; omega
          have HT : Hid (decide ((9007199254740992 : Int) < Q.sumAt q m m / (m : Int)) = true) := by show _ = _; rw [decide_eq_true_iff, ← hc]; exact HSM.out
          clear hbig h59 hsm hc hc0
          go_wp2_with (fail)
          refine (Count_big q m _ HP hq2 hm1 hm2 H59 HSM).mono ?_
          rintro e w1 ⟨rfl, hB⟩
          have HB1 := Lib.hid hB
          clear hB
          go_wp2_with (fail)
          refine (rField_is (q : Int) true _ ⟨fun _ => rfl, fun _ => HF.out⟩).mono ?_
          rintro e w2 ⟨rfl, rfl⟩
          go_wp2_with (fail)
          refine (rCount_is q m _ hq1 hq2 hm1 hm2 HBIG HC0 true HT).mono ?_
          rintro e w3 ⟨rfl, hB⟩
          have HB3 := Lib.hid (HB1.out.trans (hB.mono HB1.out.size))
          clear hB
          simp only [if_true, Bool.not_true]
          go_wp2_with (fail)
          refine (awake_is _).mono ?_
          rintro e w9 ⟨rfl, hB⟩
          have HB9 := Lib.hid (HB3.out.trans (hB.mono HB3.out.size))
          clear hB
          go_wp2_with (fail)
          go_ret
          exact ⟨rfl, HB9.out⟩
      · rw [if_neg h59] at hc
        have H59 : Hid (576460752303423488 < q ^ m) := by show _ < _; omega
        have HT : Hid (decide ((9007199254740992 : Int) < Q.sumAt q m m / (m : Int)) = true) := hc
        clear hbig h59 hc hc0
        go_wp2_with (fail)
        refine (Count_far q m _ HP hq2 hm1 hm2 H59).mono ?_
        rintro e w1 ⟨rfl, hB⟩
        have HB1 := Lib.hid hB
        clear hB
        go_wp2_with (fail)
        refine (rField_is (q : Int) true _ ⟨fun _ => rfl, fun _ => HF.out⟩).mono ?_
        rintro e w2 ⟨rfl, rfl⟩
        go_wp2_with (fail)
        refine (rCount_is q m _ hq1 hq2 hm1 hm2 HBIG HC0 true HT).mono ?_
        rintro e w3 ⟨rfl, hB⟩
        have HB3 := Lib.hid (HB1.out.trans (hB.mono HB1.out.size))
        clear hB
        simp only [if_true, Bool.not_true]
        go_wp2_with (fail)
        refine (awake_is _).mono ?_
        rintro e w9 ⟨rfl, hB⟩
        have HB9 := Lib.hid (HB3.out.trans (hB.mono HB3.out.size))
        clear hB
        go_wp2_with (fail)
        go_ret
        exact ⟨rfl, HB9.out⟩
    · have H61 : Hid (2305843009213693952 < q ^ m) := by show _ < _; omega
      have H59 : Hid (576460752303423488 < q ^ m) := by show _ < _; omega
      clear hbig hc
      go_wp2_with (fail)
      refine (Count_far q m _ HP hq2 hm1 hm2 H59).mono ?_
      rintro e w1 ⟨rfl, hB⟩
      have HB1 := Lib.hid hB
      clear hB
      go_wp2_with (fail)
      refine (rField_is (q : Int) true _ ⟨fun _ => rfl, fun _ => HF.out⟩).mono ?_
      rintro e w2 ⟨rfl, rfl⟩
      go_wp2_with (fail)
      refine (rCount_far q m _ hq1 hq2 hm1 hm2 H61).mono ?_
      rintro e w3 ⟨rfl, hB⟩
      have HB3 := Lib.hid (HB1.out.trans (hB.mono HB1.out.size))
      clear hB
      go_wp2_with (fail)
      refine (awake_is _).mono ?_
      rintro e w9 ⟨rfl, hB⟩
      have HB9 := Lib.hid (HB3.out.trans (hB.mono HB3.out.size))
      clear hB
      go_wp2_with (fail)
      go_ret
      exact ⟨rfl, HB9.out⟩
  · have HN : Hid (¬ (FieldI p ∧ 1 ≤ n ∧ n ≤ 32)) := hok
    clear hok
    go_wp2_with (fail)
    refine (Count_arg p n _ HN).mono ?_
    rintro e w1 ⟨rfl, hB⟩
    have HB1 := Lib.hid hB
    clear hB
    by_cases hf : FieldI p
    · have HF := Lib.hid hf
      clear hf
      by_cases h1 : n < 1
      · have hd1 : decide (n < 1) = true := by rw [decide_eq_true_iff]; exact h1
        go_wp2_with (fail)
        refine (rField_is p true _ ⟨fun _ => rfl, fun _ => HF.out⟩).mono ?_
        rintro e w2 ⟨rfl, rfl⟩
        go_wp2_with (fail)
        refine (awake_is _).mono ?_
        rintro e w9 ⟨rfl, hB⟩
        have HB9 := Lib.hid (HB1.out.trans (hB.mono HB1.out.size))
        clear hB
        go_wp2_with (fail)
        go_ret
        exact ⟨rfl, HB9.out⟩
      · have hd1 : decide (n < 1) = false := by rw [decide_eq_false_iff_not]; exact h1
        have hd2 : decide (33 ≤ n) = true := by
          rw [decide_eq_true_iff]
          rcases Int.lt_or_le n 33 with h | h
          · exact absurd ⟨HF.out, by omega, by omega⟩ HN.out
          · exact h
        go_wp2_with (fail)
        refine (rField_is p true _ ⟨fun _ => rfl, fun _ => HF.out⟩).mono ?_
        rintro e w2 ⟨rfl, rfl⟩
        go_wp2_with (fail)
        refine (awake_is _).mono ?_
        rintro e w9 ⟨rfl, hB⟩
        have HB9 := Lib.hid (HB1.out.trans (hB.mono HB1.out.size))
        clear hB
        go_wp2_with (fail)
        go_ret
        exact ⟨rfl, HB9.out⟩
    · have HF := Lib.hid hf
      clear hf
      go_wp2_with (fail)
      refine (rField_is p false _ ⟨fun h => absurd h HF.out, fun h => by cases h⟩).mono ?_
      rintro e w2 ⟨rfl, rfl⟩
      go_wp2_with (fail)
      refine (awake_is _).mono ?_
      rintro e w9 ⟨rfl, hB⟩
      have HB9 := Lib.hid (HB1.out.trans (hB.mono HB1.out.size))
      clear hB
      go_wp2_with (fail)
      go_ret
      exact ⟨rfl, HB9.out⟩


set_option maxRecDepth 100000 in
theorem lifted (os : Os) (started : os.Started) (H : Type) (enc : TypeId × Value → H) :
    ReturnsInHanded {} Try.checked os 8 .any (Rows.polyCountsSpec.pre6 enc Try.prog Try.f8 Rows.polyCountsRow.domain false) (Rows.polyCountsSpec.post enc Try.prog Try.f8 false true false false) := by
  refine returnsInHanded_of_change (C := Try.checked) own started (by kernel_rfl) Try.func8
    (ChangeSpec.witness6 (enc := enc) (C := Try.checked) false ⟨#[], #[.int .i64 0, .int .i64 0], []⟩ 8 (by kernel_rfl) (by kernel_rfl) (by kernel_rfl) (by kernel_rfl)) ?_
  intro W base args ds gs before hval0 hW hcnd _
  have hval : ∀ (j : Nat) t v, Try.f8.params[j]? = some t → args[j]? = some v → Value.okWide Try.prog W .any base t v := hval0
  have hW' := hW
  obtain ⟨p, q, hA0, hV, rfl, hfz, hnd⟩ := hW
  have hA : DataW.TrodAll enc Try.prog W 0 (fun _ => true) true Try.f8.params.toList args.toList ds p := hA0
  rw [Try.params8] at hA hval
  obtain ⟨v0, vs0, d0, ds0, p0, q0, hargs, rfl, rfl, h0, r0⟩ := trodAll_cons hA
  obtain ⟨v1, vs1, d1, ds1, p1, q1, rfl, rfl, rfl, h1, r1⟩ := trodAll_cons r0
  obtain ⟨rfl, rfl, rfl⟩ := trodAll_nil r1
  obtain rfl : args = #[v0, v1] := by cases args; simp_all
  obtain ⟨rfl, rfl⟩ := trodVars_none hV
  have hlt := hW'.lt
  obtain ⟨a0, rfl, rfl, rfl, w0⟩ := open_int Try.underlying3 (hval 0 3 v0 rfl rfl) h0
  obtain ⟨a1, rfl, rfl, rfl, w1⟩ := open_int Try.underlying3 (hval 1 3 v1 rfl rfl) h1
  clear hA0 hval0
  simp only [List.append_nil] at hW'
  refine (walk a0 a1 W).mono fun e W' ⟨he, hg⟩ => ?_
  subst he
  exact ⟨_, rfl, _, _, _, [], [] ++ ([] ++ ([])), [], hW', trodAll_cons_mk (shut_bool Try.underlying4 _) trodAll_mk0, trodAll_cons_mk (shut_int Try.underlying3 w0) (trodAll_cons_mk (shut_int Try.underlying3 w1) trodAll_mk0), rfl, hg.frame _, fun h => by cases h⟩

theorem over : Rows.polyCountsRow.holds Try.pinned (OpenSpec.ofChange Rows.polyCountsSpec) :=
  OpenClaim.holds_of_wide 8 Try.f8 rfl rfl rfl rfl rfl rfl rfl ⟨rfl, rfl, rfl, rfl, rfl⟩ rfl rfl rfl rfl rfl (by kernel_rfl) Try.func8 (by kernel_rfl)
    (of_decide_eq_true (by kernel_rfl)) (by unfold Func.isWrapper; first | (rw [if_pos (by decide +kernel)]; kernel_rfl) | (rw [if_neg (by decide +kernel)]; exact ⟨rfl, rfl⟩))
    (fun os started H enc _ => lifted os started H enc)

theorem proved : Rows.PolyCountsSaid := over

end Go.Proofs.Ytgnpohapmijfiaa.polyCounts
