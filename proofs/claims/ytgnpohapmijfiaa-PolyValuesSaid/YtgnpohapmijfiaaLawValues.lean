/- For any field, polynomial and int, Value returns the value of the polynomial, or ErrArg. No condition. -/
import Derived.Test.YtgnpohapmijfiaaG10
import Derived.Test.YtgnpohapmijfiaaG11
import Derived.ProofKit
import Derived.OpenShut
namespace Go.Proofs.Ytgnpohapmijfiaa.polyValues
open Go.ChangeShapes Go.WideShapes Go.ChangeAt Go.RowKit

theorem own : ownKnob Try.prog.godebug = none := by kernel_rfl


set_option maxRecDepth 100000 in
set_option maxHeartbeats 4000000 in
theorem walk (p : Int) (v : Value) (Z : List Int) (x : Int) (w : World) (hv : Hid (ArgI w v Z)) :
    Calls Try.prog 6 #[.int .i64 p, v, .int .i64 x] w fun e w' => e = .returned (.bool true) ∧ Below w.heap.size w w' := by
  obtain ⟨T, hT⟩ : ∃ T, T = Z.take 34 := ⟨_, rfl⟩
  have hTl : T.length ≤ 34 := by rw [hT, List.length_take]; omega
  have HT := Lib.hid hT
  go_enter Try.func6, Try.ntmps6
  go_wp2_with (fail)
  refine (own_is Z v w hv).mono ?_
  rintro e w1 ⟨⟨v1, rfl, hN⟩, hB⟩
  rw [← hT] at hN
  have HB1 := Lib.hid hB
  have HR1 : Hid (Rd w1 v1 1 T.length (zs T)) := hN.rd
  obtain ⟨a1, c1, hv1⟩ := hN.rd.shape
  subst hv1
  clear hN hB hT
  by_cases hok : FieldI p ∧ polyB p T = true ∧ 0 ≤ x ∧ x < p
  · obtain ⟨hf, hpb, hx0, hxp⟩ := hok
    obtain ⟨q, F, rfl, hF, hP, hq, hPol, hFl⟩ := of_args1 (p := p) (Z1 := T) ⟨hf, fun Z hZ => by simp at hZ; subst hZ; exact hpb⟩
    obtain ⟨y, rfl⟩ := Int.eq_ofNat_of_zero_le hx0
    have HF := Lib.hid hf
    have HPB := Lib.hid hpb
    have HP := Lib.hid hP
    have HPol := Lib.hid hPol
    have hyq : y < q := by omega
    have HRF : Hid (Rd w1 (.slice a1 T.length c1) 1 F.length (nats F)) := by
      have := HR1.out; rw [hF] at this ⊢; rw [up_length, zs_up] at this; rw [up_length]; exact this
    have hlx0 : decide ((y : Int) < 0) = false := by rw [decide_eq_false_iff_not]; omega
    have hlx1 : decide ((q : Int) ≤ (y : Int)) = false := by rw [decide_eq_false_iff_not]; omega
    clear hF hf hpb hP hPol
    go_wp2_with (fail)
    refine (Value_ok q y F _ _ HP hq hyq HRF HPol hFl).mono ?_
    rintro e w2 ⟨rfl, hB⟩
    have HB2 := Lib.hid (HB1.out.trans (hB.mono HB1.out.size))
    have HR2 : Hid (Rd w2 (.slice a1 T.length c1) 1 T.length (zs T)) := HR1.out.below hB (Nat.le_refl _)
    have HRF2 : Hid (Rd w2 (.slice a1 T.length c1) 1 F.length (nats F)) := HRF.out.below hB (Nat.le_refl _)
    clear hB
    go_wp2_with (fail)
    refine (rField_is (q : Int) true _ ⟨fun _ => rfl, fun _ => HF.out⟩).mono ?_
    rintro e w3 ⟨rfl, rfl⟩
    go_wp2_with (fail)
    refine (rPoly_is (q : Int) _ T true _ HR2 (by omega) HPB).mono ?_
    rintro e w3 ⟨rfl, rfl⟩
    go_wp2_with (fail)
    refine (rValue_is q y F _ _ HP.out.1 hq hyq HRF2 HPol.out.red (by omega)).mono ?_
    rintro e w3 ⟨rfl, hw3⟩
    subst hw3
    go_wp2_with (fail)
    refine (awake_is _).mono ?_
    rintro e w4 ⟨rfl, hB⟩
    have HB4 := Lib.hid (HB2.out.trans (hB.mono HB2.out.size))
    clear hB
    go_wp2_with (fail)
    go_ret
    exact ⟨rfl, HB4.out⟩
  · have HN : Hid (¬ (FieldI p ∧ polyB p T = true ∧ 0 ≤ x ∧ x < p)) := hok
    clear hok
    go_wp2_with (fail)
    refine (Value_arg p T x _ _ HR1 (by omega) HN).mono ?_
    rintro e w2 ⟨rfl, hB⟩
    have HB2 := Lib.hid (HB1.out.trans (hB.mono HB1.out.size))
    have HR2 : Hid (Rd w2 (.slice a1 T.length c1) 1 T.length (zs T)) := HR1.out.below hB (Nat.le_refl _)
    clear hB
    by_cases hf : FieldI p
    · have HF := Lib.hid hf
      clear hf
      go_wp2_with (fail)
      refine (rField_is p true _ ⟨fun _ => rfl, fun _ => HF.out⟩).mono ?_
      rintro e w3 ⟨rfl, rfl⟩
      cases hpb : polyB p T with
      | true =>
        have HPB := Lib.hid hpb
        by_cases hx0 : x < 0
        · have hd0 : decide (x < 0) = true := by rw [decide_eq_true_iff]; exact hx0
          clear hpb
          go_wp2_with (fail)
          refine (rPoly_is p _ T true _ HR2 (by omega) HPB).mono ?_
          rintro e w3 ⟨rfl, rfl⟩
          go_wp2_with (fail)
          refine (awake_is _).mono ?_
          rintro e w4 ⟨rfl, hB⟩
          have HB4 := Lib.hid (HB2.out.trans (hB.mono HB2.out.size))
          clear hB
          go_wp2_with (fail)
          go_ret
          exact ⟨rfl, HB4.out⟩
        · have hd0 : decide (x < 0) = false := by rw [decide_eq_false_iff_not]; exact hx0
          have hd1 : decide (p ≤ x) = true := by
            rw [decide_eq_true_iff]
            rcases Int.lt_or_le x p with h | h
            · exact absurd ⟨HF.out, hpb, by omega, h⟩ HN.out
            · exact h
          clear hpb
          go_wp2_with (fail)
          refine (rPoly_is p _ T true _ HR2 (by omega) HPB).mono ?_
          rintro e w3 ⟨rfl, rfl⟩
          go_wp2_with (fail)
          refine (awake_is _).mono ?_
          rintro e w4 ⟨rfl, hB⟩
          have HB4 := Lib.hid (HB2.out.trans (hB.mono HB2.out.size))
          clear hB
          go_wp2_with (fail)
          go_ret
          exact ⟨rfl, HB4.out⟩
      | false =>
        have HPB := Lib.hid hpb
        clear hpb
        go_wp2_with (fail)
        refine (rPoly_is p _ T false _ HR2 (by omega) HPB).mono ?_
        rintro e w3 ⟨rfl, rfl⟩
        go_wp2_with (fail)
        refine (awake_is _).mono ?_
        rintro e w4 ⟨rfl, hB⟩
        have HB4 := Lib.hid (HB2.out.trans (hB.mono HB2.out.size))
        clear hB
        go_wp2_with (fail)
        go_ret
        exact ⟨rfl, HB4.out⟩
    · have HF := Lib.hid hf
      clear hf
      go_wp2_with (fail)
      refine (rField_is p false _ ⟨fun h => absurd h HF.out, fun h => by cases h⟩).mono ?_
      rintro e w3 ⟨rfl, rfl⟩
      go_wp2_with (fail)
      refine (awake_is _).mono ?_
      rintro e w4 ⟨rfl, hB⟩
      have HB4 := Lib.hid (HB2.out.trans (hB.mono HB2.out.size))
      clear hB
      go_wp2_with (fail)
      go_ret
      exact ⟨rfl, HB4.out⟩


set_option maxRecDepth 100000 in
theorem lifted (os : Os) (started : os.Started) (H : Type) (enc : TypeId × Value → H) :
    ReturnsInHanded {} Try.checked os 6 .any (Rows.polyValuesSpec.pre6 enc Try.prog Try.f6 Rows.polyValuesRow.domain false) (Rows.polyValuesSpec.post enc Try.prog Try.f6 false true false false) := by
  refine returnsInHanded_of_change (C := Try.checked) own started (by kernel_rfl) Try.func6
    (ChangeSpec.witness6 (enc := enc) (C := Try.checked) false ⟨#[], #[.int .i64 0, .slice none 0 0, .int .i64 0], []⟩ 8 (by kernel_rfl) (by kernel_rfl) (by kernel_rfl) (by kernel_rfl)) ?_
  intro W base args ds gs before hval0 hW hcnd _
  have hval : ∀ (j : Nat) t v, Try.f6.params[j]? = some t → args[j]? = some v → Value.okWide Try.prog W .any base t v := hval0
  have hW' := hW
  obtain ⟨p, q, hA0, hV, rfl, hfz, hnd⟩ := hW
  have hA : DataW.TrodAll enc Try.prog W 0 (fun _ => true) true Try.f6.params.toList args.toList ds p := hA0
  rw [Try.params6] at hA hval
  obtain ⟨v0, vs0, d0, ds0, p0, q0, hargs, rfl, rfl, h0, r0⟩ := trodAll_cons hA
  obtain ⟨v1, vs1, d1, ds1, p1, q1, rfl, rfl, rfl, h1, r1⟩ := trodAll_cons r0
  obtain ⟨v2, vs2, d2, ds2, p2, q2, rfl, rfl, rfl, h2, r2⟩ := trodAll_cons r1
  obtain ⟨rfl, rfl, rfl⟩ := trodAll_nil r2
  obtain rfl : args = #[v0, v1, v2] := by cases args; simp_all
  obtain ⟨rfl, rfl⟩ := trodVars_none hV
  have hlt := hW'.lt
  obtain ⟨a0, rfl, rfl, rfl, w0⟩ := open_int Try.underlying3 (hval 0 3 v0 rfl rfl) h0
  obtain ⟨Z1, hZ1⟩ := argI_of (hval 1 22 v1 rfl rfl) h1
  obtain ⟨a2, rfl, rfl, rfl, w2⟩ := open_int Try.underlying3 (hval 2 3 v2 rfl rfl) h2
  clear hA0 hval0
  simp only [List.append_nil] at hW'
  refine (walk a0 v1 Z1 a2 W hZ1).mono fun e W' ⟨he, hg⟩ => ?_
  subst he
  exact ⟨_, rfl, _, _, _, [], [] ++ (p1 ++ ([] ++ ([]))), [], hW', trodAll_cons_mk (shut_bool Try.underlying4 _) trodAll_mk0, trodAll_cons_mk (shut_int Try.underlying3 w0) (trodAll_cons_mk (Below.trod (by kernel_rfl) (by kernel_rfl) (by decide +kernel) h1 hg (fun x hx => hlt x (by simp [hx]))) (trodAll_cons_mk (shut_int Try.underlying3 w2) trodAll_mk0)), rfl, hg.frame _, fun h => by cases h⟩

theorem over : Rows.polyValuesRow.holds Try.pinned (OpenSpec.ofChange Rows.polyValuesSpec) :=
  OpenClaim.holds_of_wide 6 Try.f6 rfl rfl rfl rfl rfl rfl rfl ⟨rfl, rfl, rfl, rfl, rfl⟩ rfl rfl rfl rfl rfl (by kernel_rfl) Try.func6 (by kernel_rfl)
    (of_decide_eq_true (by kernel_rfl)) (by unfold Func.isWrapper; first | (rw [if_pos (by decide +kernel)]; kernel_rfl) | (rw [if_neg (by decide +kernel)]; exact ⟨rfl, rfl⟩))
    (fun os started H enc _ => lifted os started H enc)

theorem proved : Rows.PolyValuesSaid := over

end Go.Proofs.Ytgnpohapmijfiaa.polyValues
