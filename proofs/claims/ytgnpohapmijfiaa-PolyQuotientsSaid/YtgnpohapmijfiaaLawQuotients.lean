/- For any field and polynomials, Div returns the quotient and the remainder, ErrZero if the divisor is 0, or ErrArg. No condition. -/
import Derived.Test.YtgnpohapmijfiaaG10
import Derived.Test.YtgnpohapmijfiaaG11
import Derived.Test.YtgnpohapmijfiaaG13
import Derived.Deep.RegionHeld3
import Derived.ProofKit
import Derived.OpenShut
namespace Go.Proofs.Ytgnpohapmijfiaa.polyQuotients
open Go.ChangeShapes Go.WideShapes Go.ChangeAt Go.RowKit

theorem own : ownKnob Try.prog.godebug = none := by kernel_rfl


set_option maxRecDepth 100000 in
set_option maxHeartbeats 4000000 in
theorem walk (p : Int) (va vb : Value) (Za Zb : List Int) (w : World) (hva : Hid (ArgI w va Za)) (hvb : Hid (ArgI w vb Zb)) :
    Calls Try.prog 4 #[.int .i64 p, .agg #[va, vb]] w fun e w' => e = .returned (.bool true) ∧ Below w.heap.size w w' := by
  obtain ⟨Ta, hTa⟩ : ∃ T, T = Za.take 34 := ⟨_, rfl⟩
  obtain ⟨Tb, hTb⟩ : ∃ T, T = Zb.take 34 := ⟨_, rfl⟩
  have hTal : Ta.length ≤ 34 := by rw [hTa, List.length_take]; omega
  have hTbl : Tb.length ≤ 34 := by rw [hTb, List.length_take]; omega
  have HT := Lib.hid (And.intro hTa hTb)
  obtain ⟨xa, na, ca, hsa⟩ := hva.out.form
  obtain ⟨xb, nb, cb, hsb⟩ := hvb.out.form
  subst hsa hsb
  obtain ⟨X, hX⟩ : ∃ X, X = w.alloc (.cells #[.slice xa na ca, .slice xb nb cb] 24) := ⟨_, rfl⟩
  have HA : Hid (Below w.heap.size w X) := by rw [hX]; exact (Below.refl _ _).alloc (Nat.le_refl _) _
  have hXz : w.heap.size < X.heap.size := by rw [hX]; simp
  have hca : X.cell? ⟨w.heap.size, 0, none⟩ = some (.slice xa na ca) := by rw [hX]; simp
  have hcb : X.cell? ⟨w.heap.size, 1, none⟩ = some (.slice xb nb cb) := by rw [hX]; simp
  have HXS : Hid (∀ W, Below X.heap.size X W → W.cell? ⟨w.heap.size, 0, none⟩ = some (.slice xa na ca) ∧ W.cell? ⟨w.heap.size, 1, none⟩ = some (.slice xb nb cb)) := fun W h =>
    ⟨by rw [h.cell (p := ⟨w.heap.size, 0, none⟩) hXz]; exact hca, by rw [h.cell (p := ⟨w.heap.size, 1, none⟩) hXz]; exact hcb⟩
  have HVa : Hid (∀ W, Below X.heap.size X W → ArgI W (.slice xa na ca) Za) := fun W h => (hva.out.below HA.out).below h
  have HVb : Hid (∀ W, Below X.heap.size X W → ArgI W (.slice xb nb cb) Zb) := fun W h => (hvb.out.below HA.out).below h
  have HXD : Hid (Below X.heap.size X X.drew) := (Below.refl _ _).drew
  clear hTa hTb hva hvb
  go_enter Try.func4, Try.ntmps4
  go_upto_region 1 with fail
  rw [← hX]
  have HX := Lib.hid hX
  clear hX
  go_cut [5, 6] (fun f g wx => ∃ (vf vg : Value) (W5 : World), f = vf ∧ g = vg ∧ W5 = wx ∧ Hid (NewZ w wx vf Ta) ∧ Hid (NewZ w wx vg Tb) ∧ Hid (Below w.heap.size w wx))
  case first =>
    go_region_held3 (fun w' => w'.cell? ⟨w.heap.size, 0, none⟩ = some (.slice xa na ca) ∧ w'.cell? ⟨w.heap.size, 1, none⟩ = some (.slice xb nb cb)) (first | exact ⟨k1, k2⟩ | exact HXS.out _ HXD.out)
      ((go_at_call 19; refine (own_is _ _ _ (by first | exact HVa.out _ (by first | exact HXD.out | exact HKB.out) | exact HVb.out _ (by first | exact HXD.out | exact HKA.out))).mono ?_; rintro e wN ⟨⟨vN, rfl, hN⟩, hB⟩; have hK : Below X.heap.size X wN := own_step (by first | exact HXD.out | exact HKA.out | exact HKB.out) hB; have k1 := (HXS.out _ hK).1; have k2 := (HXS.out _ hK).2; first | (have HNA : Hid (NewZ _ wN vN (Za.take 34)) := hN; have HKA := Lib.hid hK; have HBA := Lib.hid hB) | (have HNB : Hid (NewZ _ wN vN (Zb.take 34)) := hN; have HKB := Lib.hid hK; have HBB := Lib.hid hB); clear hN hB hK))
    all_goals
      go_wp2_with (fail)
      go_meet
      first
        | (have h := own_two HA.out HXD.out HNA.out HBA.out HNB.out HBB.out; exact ⟨_, _, _, rfl, rfl, rfl, by rw [HT.out.1]; exact h.1, by rw [HT.out.2]; exact h.2.1, h.2.2⟩)
        | (have h := own_two HA.out HXD.out HNB.out HBB.out HNA.out HBA.out; exact ⟨_, _, _, rfl, rfl, rfl, by rw [HT.out.1]; exact h.2.1, by rw [HT.out.2]; exact h.1, h.2.2⟩)
  case rest =>
    obtain ⟨f, g, w1, rfl, rfl, rfl, HNa, HNb, HB1⟩ := hcut
    have HRa := Lib.hid HNa.out.rd
    have HRb := Lib.hid HNb.out.rd
    obtain ⟨a1, c1, hv1⟩ := HNa.out.rd.shape
    obtain ⟨a2, c2, hv2⟩ := HNb.out.rd.shape
    subst hv1 hv2
    clear hca hcb hXz HXS HVa HVb HXD HA HX HNa HNb
    by_cases hok : Args2 p Ta Tb

    · have HOK := Lib.hid hok
      obtain ⟨q, F, G, rfl, hF, hG, hP, hq, hPF, hPG, hFl, hGl⟩ := of_args2 hok
      have HF : Hid (FieldI (q : Int)) := hok.1
      have HPa : Hid (polyB (q : Int) Ta = true) := hok.2 Ta (by simp)
      have HPb : Hid (polyB (q : Int) Tb = true) := hok.2 Tb (by simp)
      have HP := Lib.hid hP
      have HPF := Lib.hid hPF
      have HPG := Lib.hid hPG
      have hp2 : 2 ≤ q := hP.1
      have HRF : Hid (∀ W, Rd W (.slice a1 Ta.length c1) 1 Ta.length (zs Ta) → Rd W (.slice a1 Ta.length c1) 1 F.length (nats F)) := fun W h => by
        rw [hF] at h ⊢; rw [up_length, zs_up] at h; rw [up_length]; exact h
      have HRG : Hid (∀ W, Rd W (.slice a2 Tb.length c2) 1 Tb.length (zs Tb) → Rd W (.slice a2 Tb.length c2) 1 G.length (nats G)) := fun W h => by
        rw [hG] at h ⊢; rw [up_length, zs_up] at h; rw [up_length]; exact h
      have HLF : Hid (Ta.length = F.length ∧ Tb.length = G.length) := ⟨by rw [hF, up_length], by rw [hG, up_length]⟩
      have HRF1 : Hid (Rd w1 (.slice a1 Ta.length c1) 1 F.length (nats F)) := HRF.out _ HRa.out
      have HRG1 : Hid (Rd w1 (.slice a2 Tb.length c2) 1 G.length (nats G)) := HRG.out _ HRb.out
      clear hF hG hok hP hPF hPG
      by_cases hg0 : G.length = 0
      · have hz : ((Tb.length : Int) == 0) = true := by rw [beq_iff_eq]; have := HLF.out.2; omega
        have HG0 := Lib.hid hg0
        clear hg0
        go_wp2_with (fail)
        refine (Div_zero q F G _ _ _ HP hq HRF1 HRG1 HPF HPG hFl hGl HG0).mono ?_
        rintro e w2 ⟨rfl, hB⟩
        have HB2 := Lib.hid (HB1.out.trans (hB.mono HB1.out.size))
        have HRa2 : Hid (Rd w2 (.slice a1 Ta.length c1) 1 Ta.length (zs Ta)) := HRa.out.below hB (Nat.le_refl _)
        have HRb2 : Hid (Rd w2 (.slice a2 Tb.length c2) 1 Tb.length (zs Tb)) := HRb.out.below hB (Nat.le_refl _)
        clear hB HRa HRb HRF1 HRG1
        go_wp2_with (fail)
        refine (rField_is (q : Int) true _ ⟨fun _ => rfl, fun _ => HF.out⟩).mono ?_
        rintro e wz ⟨rfl, rfl⟩
        go_wp2_with (fail)
        refine (rPoly_is (q : Int) _ Ta true _ HRa2 (by omega) HPa).mono ?_
        rintro e wz ⟨rfl, rfl⟩
        go_wp2_with (fail)
        refine (rPoly_is (q : Int) _ Tb true _ HRb2 (by omega) HPb).mono ?_
        rintro e wz ⟨rfl, rfl⟩

        go_wp2_with (fail)
        refine (awake_is _).mono ?_
        rintro e w9 ⟨rfl, hB⟩
        have HB9 := Lib.hid (HB2.out.trans (hB.mono HB2.out.size))
        clear hB
        go_wp2_with (fail)
        go_ret
        exact ⟨rfl, HB9.out⟩
      · have hz : ((Tb.length : Int) == 0) = false := by rw [beq_eq_false_iff_ne]; have := HLF.out.2; omega
        obtain ⟨dq, hdq⟩ : ∃ dq, dq = (Q.divP q F G).1 := ⟨_, rfl⟩
        obtain ⟨dr, hdr⟩ : ∃ dr, dr = (Q.divP q F G).2 := ⟨_, rfl⟩
        have hdi := Q.div_is HP.out HPF.out HPG.out hg0
        have hql : dq.length ≤ 100000 := by rw [hdq, hdi.qlen]; omega
        have hrl : dr.length ≤ 100000 := by rw [hdr]; have := hdi.rlen; omega
        have HDD := Lib.hid (And.intro hdq hdr)
        have HG0 := Lib.hid hg0
        clear hdi hdq hdr
        go_wp2_with (fail)
        refine (Div_ok q F G _ _ _ HP hq HRF1 HRG1 HPF HPG hFl hGl hg0).mono ?_
        rintro e w2 ⟨⟨vq, vr, rfl, hNq, hNr⟩, hB⟩
        rw [← HDD.out.1] at hNq
        rw [← HDD.out.2] at hNr
        have HB2 := Lib.hid (HB1.out.trans (hB.mono HB1.out.size))
        have HRa2 : Hid (Rd w2 (.slice a1 Ta.length c1) 1 Ta.length (zs Ta)) := HRa.out.below hB (Nat.le_refl _)
        have HRb2 : Hid (Rd w2 (.slice a2 Tb.length c2) 1 Tb.length (zs Tb)) := HRb.out.below hB (Nat.le_refl _)
        have HRF2 : Hid (Rd w2 (.slice a1 Ta.length c1) 1 F.length (nats F)) := HRF.out _ HRa2.out
        have HRG2 : Hid (Rd w2 (.slice a2 Tb.length c2) 1 G.length (nats G)) := HRG.out _ HRb2.out
        have HQ2 : Hid (Rd w2 vq 1 dq.length (nats dq)) := hNq.rd
        have HR2 : Hid (Rd w2 vr 1 dr.length (nats dr)) := hNr.rd
        obtain ⟨a3, c3, hv3⟩ := hNq.rd.shape
        obtain ⟨a4, c4, hv4⟩ := hNr.rd.shape
        subst hv3 hv4
        clear hB hNq hNr HRa HRb HRF1 HRG1 hg0
        go_wp2_with (fail)
        refine (rField_is (q : Int) true _ ⟨fun _ => rfl, fun _ => HF.out⟩).mono ?_
        rintro e wz ⟨rfl, rfl⟩
        go_wp2_with (fail)
        refine (rPoly_is (q : Int) _ Ta true _ HRa2 (by omega) HPa).mono ?_
        rintro e wz ⟨rfl, rfl⟩
        go_wp2_with (fail)
        refine (rPoly_is (q : Int) _ Tb true _ HRb2 (by omega) HPb).mono ?_
        rintro e wz ⟨rfl, rfl⟩

        go_wp2_with (fail)
        refine (rDiv_is q F G _ _ _ HP hq HRF2 HRG2 HPF HPG (by omega) HG0.out).mono ?_
        rintro e w3 ⟨⟨vx, vy, rfl, hNx, hNy⟩, hB⟩
        rw [← HDD.out.1] at hNx
        rw [← HDD.out.2] at hNy
        have HB3 := Lib.hid (HB2.out.trans (hB.mono HB2.out.size))
        have HX3 : Hid (Rd w3 vx 1 dq.length (nats dq)) := hNx.rd
        have HY3 : Hid (Rd w3 vy 1 dr.length (nats dr)) := hNy.rd
        have HQ3 : Hid (Rd w3 (.slice a3 dq.length c3) 1 dq.length (nats dq)) := HQ2.out.below hB (Nat.le_refl _)
        have HR3 : Hid (Rd w3 (.slice a4 dr.length c4) 1 dr.length (nats dr)) := HR2.out.below hB (Nat.le_refl _)
        obtain ⟨a5, c5, hv5⟩ := hNx.rd.shape
        obtain ⟨a6, c6, hv6⟩ := hNy.rd.shape
        subst hv5 hv6
        clear hB hNx hNy
        go_wp2_with (fail)
        refine (Same_is dq dq _ _ true _ HQ3 HX3 (by omega) (by omega) ⟨fun _ => rfl, fun _ => rfl⟩).mono ?_
        rintro e w4 ⟨rfl, n4, hw4⟩
        have HB34 : Hid (Below w3.heap.size w3 w4) := by rw [hw4]; exact below_drewN (Below.refl _ _) _
        have HB4 := Lib.hid (HB3.out.trans (HB34.out.mono HB3.out.size))
        have HR4 : Hid (Rd w4 (.slice a4 dr.length c4) 1 dr.length (nats dr)) := HR3.out.below HB34.out (Nat.le_refl _)
        have HY4 : Hid (Rd w4 (.slice a6 dr.length c6) 1 dr.length (nats dr)) := HY3.out.below HB34.out (Nat.le_refl _)
        clear hw4
        go_wp2_with (fail)
        refine (Same_is dr dr _ _ true _ HR4 HY4 (by omega) (by omega) ⟨fun _ => rfl, fun _ => rfl⟩).mono ?_
        rintro e w5 ⟨rfl, n5, hw5⟩
        have HB45 : Hid (Below w4.heap.size w4 w5) := by rw [hw5]; exact below_drewN (Below.refl _ _) _
        have HB5 := Lib.hid (HB4.out.trans (HB45.out.mono HB4.out.size))
        clear hw5

        go_wp2_with (fail)
        refine (awake_is _).mono ?_
        rintro e w9 ⟨rfl, hB⟩
        have HB9 := Lib.hid (HB5.out.trans (hB.mono HB5.out.size))
        clear hB
        go_wp2_with (fail)
        go_ret
        exact ⟨rfl, HB9.out⟩
    · have HN : Hid (¬ Args2 p Ta Tb) := hok
      clear hok
      go_wp2_with (fail)
      refine (Div_arg p Ta Tb _ _ _ HRa HRb (by omega) (by omega) HN).mono ?_
      rintro e w2 ⟨rfl, hB⟩
      have HB2 := Lib.hid (HB1.out.trans (hB.mono HB1.out.size))
      have HRa2 : Hid (Rd w2 (.slice a1 Ta.length c1) 1 Ta.length (zs Ta)) := HRa.out.below hB (Nat.le_refl _)
      have HRb2 : Hid (Rd w2 (.slice a2 Tb.length c2) 1 Tb.length (zs Tb)) := HRb.out.below hB (Nat.le_refl _)
      clear hB
      by_cases hf : FieldI p
      · have HF := Lib.hid hf
        clear hf
        go_wp2_with (fail)
        refine (rField_is p true _ ⟨fun _ => rfl, fun _ => HF.out⟩).mono ?_
        rintro e wz ⟨rfl, rfl⟩
        cases hpa : polyB p Ta with
        | true =>
          have HPa := Lib.hid hpa
          have HPb : Hid (polyB p Tb = false) := by
            show _ = _
            rw [Bool.eq_false_iff]; intro h
            refine HN.out ⟨HF.out, fun Z hZ => ?_⟩
            simp at hZ; rcases hZ with rfl | rfl <;> assumption
          clear hpa
          go_wp2_with (fail)
          refine (rPoly_is p _ Ta true _ HRa2 (by omega) HPa).mono ?_
          rintro e wz ⟨rfl, rfl⟩
          go_wp2_with (fail)
          refine (rPoly_is p _ Tb false _ HRb2 (by omega) HPb).mono ?_
          rintro e wz ⟨rfl, rfl⟩
          go_wp2_with (fail)
          refine (awake_is _).mono ?_
          rintro e w9 ⟨rfl, hB⟩
          have HB9 := Lib.hid (HB2.out.trans (hB.mono HB2.out.size))
          clear hB
          go_wp2_with (fail)
          go_ret
          exact ⟨rfl, HB9.out⟩
        | false =>
          have HPa := Lib.hid hpa
          clear hpa
          go_wp2_with (fail)
          refine (rPoly_is p _ Ta false _ HRa2 (by omega) HPa).mono ?_
          rintro e wz ⟨rfl, rfl⟩
          go_wp2_with (fail)
          refine (awake_is _).mono ?_
          rintro e w9 ⟨rfl, hB⟩
          have HB9 := Lib.hid (HB2.out.trans (hB.mono HB2.out.size))
          clear hB
          go_wp2_with (fail)
          go_ret
          exact ⟨rfl, HB9.out⟩
      · have HF := Lib.hid hf
        clear hf
        go_wp2_with (fail)
        refine (rField_is p false _ ⟨fun h => absurd h HF.out, fun h => by cases h⟩).mono ?_
        rintro e wz ⟨rfl, rfl⟩
        go_wp2_with (fail)
        refine (awake_is _).mono ?_
        rintro e w9 ⟨rfl, hB⟩
        have HB9 := Lib.hid (HB2.out.trans (hB.mono HB2.out.size))
        clear hB
        go_wp2_with (fail)
        go_ret
        exact ⟨rfl, HB9.out⟩


set_option maxRecDepth 100000 in
theorem lifted (os : Os) (started : os.Started) (H : Type) (enc : TypeId × Value → H) :
    ReturnsInHanded {} Try.checked os 4 .any (Rows.polyQuotientsSpec.pre6 enc Try.prog Try.f4 Rows.polyQuotientsRow.domain false) (Rows.polyQuotientsSpec.post enc Try.prog Try.f4 false true false false) := by
  refine returnsInHanded_of_change (C := Try.checked) own started (by kernel_rfl) Try.func4
    (ChangeSpec.witness6 (enc := enc) (C := Try.checked) false ⟨#[], #[.int .i64 0, .agg #[.slice none 0 0, .slice none 0 0]], []⟩ 8 (by kernel_rfl) (by kernel_rfl) (by kernel_rfl) (by kernel_rfl)) ?_
  intro W base args ds gs before hval0 hW hcnd _
  have hval : ∀ (j : Nat) t v, Try.f4.params[j]? = some t → args[j]? = some v → Value.okWide Try.prog W .any base t v := hval0
  have hW' := hW
  obtain ⟨p, q, hA0, hV, rfl, hfz, hnd⟩ := hW
  have hA : DataW.TrodAll enc Try.prog W 0 (fun _ => true) true Try.f4.params.toList args.toList ds p := hA0
  rw [Try.params4] at hA hval
  obtain ⟨v0, vs0, d0, ds0, p0, q0, hargs, rfl, rfl, h0, r0⟩ := trodAll_cons hA
  obtain ⟨v1, vs1, d1, ds1, p1, q1, rfl, rfl, rfl, h1, r1⟩ := trodAll_cons r0
  obtain ⟨rfl, rfl, rfl⟩ := trodAll_nil r1
  obtain rfl : args = #[v0, v1] := by cases args; simp_all
  obtain ⟨rfl, rfl⟩ := trodVars_none hV
  have hlt := hW'.lt
  obtain ⟨a0, rfl, rfl, rfl, w0⟩ := open_int Try.underlying3 (hval 0 3 v0 rfl rfl) h0
  obtain ⟨va1, vb1, Za1, Zb1, rfl, hZa1, hZb1⟩ := argP_of (hval 1 24 v1 rfl rfl) h1
  clear hA0 hval0
  simp only [List.append_nil] at hW'
  refine (walk a0 va1 vb1 Za1 Zb1 W hZa1 hZb1).mono fun e W' ⟨he, hg⟩ => ?_
  subst he
  exact ⟨_, rfl, _, _, _, [], [] ++ (p1 ++ ([])), [], hW', trodAll_cons_mk (shut_bool Try.underlying4 _) trodAll_mk0, trodAll_cons_mk (shut_int Try.underlying3 w0) (trodAll_cons_mk (Below.trod (by kernel_rfl) (by kernel_rfl) (by decide +kernel) h1 hg (fun x hx => hlt x (by simp [hx]))) trodAll_mk0), rfl, hg.frame _, fun h => by cases h⟩

theorem over : Rows.polyQuotientsRow.holds Try.pinned (OpenSpec.ofChange Rows.polyQuotientsSpec) :=
  OpenClaim.holds_of_wide 4 Try.f4 rfl rfl rfl rfl rfl rfl rfl ⟨rfl, rfl, rfl, rfl, rfl⟩ rfl rfl rfl rfl rfl (by kernel_rfl) Try.func4 (by kernel_rfl)
    (of_decide_eq_true (by kernel_rfl)) (by unfold Func.isWrapper; first | (rw [if_pos (by decide +kernel)]; kernel_rfl) | (rw [if_neg (by decide +kernel)]; exact ⟨rfl, rfl⟩))
    (fun os started H enc _ => lifted os started H enc)

theorem proved : Rows.PolyQuotientsSaid := over

end Go.Proofs.Ytgnpohapmijfiaa.polyQuotients
