/- The quotient times the divisor plus the remainder is the dividend, and the remainder has a smaller degree than the divisor. No condition. -/
import Derived.Test.YtgnpohapmijfiaaG10
import Derived.Test.YtgnpohapmijfiaaG13
import Derived.Deep.RegionHeld3
import Derived.ProofKit
import Derived.OpenShut
namespace Go.Proofs.Ytgnpohapmijfiaa.polyDivides
open Go.ChangeShapes Go.WideShapes Go.ChangeAt Go.RowKit

theorem own : ownKnob Try.prog.godebug = none := by kernel_rfl


set_option maxRecDepth 100000 in
set_option maxHeartbeats 4000000 in
theorem walk (p : Int) (va vb : Value) (Za Zb : List Int) (w : World) (hva : Hid (ArgI w va Za)) (hvb : Hid (ArgI w vb Zb)) :
    Calls Try.prog 11 #[.int .i64 p, .agg #[va, vb]] w fun e w' => e = .returned (.bool true) ∧ Below w.heap.size w w' := by
  obtain ⟨xa, na, ca, hsa⟩ := hva.out.form
  obtain ⟨xb, nb, cb, hsb⟩ := hvb.out.form
  subst hsa hsb
  obtain ⟨X, hX⟩ : ∃ X, X = w.alloc (.cells #[.slice xa na ca, .slice xb nb cb] 24) := ⟨_, rfl⟩
  have HA : Hid (Below w.heap.size w X) := by rw [hX]; exact (Below.refl _ _).alloc (Nat.le_refl _) _
  have hXz : w.heap.size < X.heap.size := by rw [hX]; simp
  have hca : X.cell? ⟨w.heap.size, 0, none⟩ = some (.slice xa na ca) := by rw [hX]; simp
  have hcb : X.cell? ⟨w.heap.size, 1, none⟩ = some (.slice xb nb cb) := by rw [hX]; simp
  have HXS : Hid (∀ W, Below X.heap.size X W → W.cell? ⟨w.heap.size, 0, none⟩ = some (.slice xa na ca) ∧ W.cell? ⟨w.heap.size, 1, none⟩ = some (.slice xb nb cb)) := fun W h =>
    ⟨by rw [h.cell (p := ⟨w.heap.size, 0, none⟩) hXz]; exact hca, by rw [h.cell (p := ⟨w.heap.size, 1, none⟩) hXz]; exact hcb⟩
  have HVa : Hid (∀ W, Below X.heap.size X W → ArgI W (.slice xa na ca) Za) := fun W h => (hva.out.below HA.out).below h
  have HVb : Hid (∀ W, Below X.heap.size X W → ArgI W (.slice xb nb cb) Zb) := fun W h => (hvb.out.below HA.out).below h
  have HXD : Hid (Below X.heap.size X X.drew) := (Below.refl _ _).drew
  clear hva hvb
  go_enter Try.func11, Try.ntmps11
  go_wp2_with (fail)
  rw [← hX]
  have HX := Lib.hid hX
  clear hX
  refine (field_is p X).mono ?_
  rintro e wz ⟨⟨q, rfl, hP0, hq⟩, hw⟩
  subst hw
  have HP := Lib.hid hP0
  have hp2 : 2 ≤ q := hP0.1
  clear hP0
  go_upto_region 2 with fail
  go_cut [5, 6] (fun f g wx => ∃ (vf vg : Value) (W5 : World), f = vf ∧ g = vg ∧ W5 = wx ∧ Hid (NewL w wx vf (Q.trim (Q.tameL q 33 Za))) ∧ Hid (NewL w wx vg (Q.trim (Q.tameL q 33 Zb))) ∧ Hid (Below w.heap.size w wx))
  case first =>
    go_region_held3 (fun w' => w'.cell? ⟨w.heap.size, 0, none⟩ = some (.slice xa na ca) ∧ w'.cell? ⟨w.heap.size, 1, none⟩ = some (.slice xb nb cb)) (first | exact ⟨k1, k2⟩ | exact HXS.out _ HXD.out)
      ((go_at_call 41; refine (tame_is q 33 _ _ _ hp2 hq (by omega) (by first | exact HVa.out _ (by first | exact HXD.out | exact HKB.out) | exact HVb.out _ (by first | exact HXD.out | exact HKA.out))).mono ?_; rintro e wN ⟨⟨vN, rfl, hN⟩, hB⟩; have hK : Below X.heap.size X wN := own_step (by first | exact HXD.out | exact HKA.out | exact HKB.out) hB; have k1 := (HXS.out _ hK).1; have k2 := (HXS.out _ hK).2; first | (have HNA : Hid (NewL _ wN vN (Q.trim (Q.tameL q 33 Za))) := hN; have HKA := Lib.hid hK; have HBA := Lib.hid hB) | (have HNB : Hid (NewL _ wN vN (Q.trim (Q.tameL q 33 Zb))) := hN; have HKB := Lib.hid hK; have HBB := Lib.hid hB); clear hN hB hK))
    all_goals
      go_wp2_with (fail)
      go_meet
      first
        | (have h := tame_two HA.out HXD.out HNA.out HBA.out HNB.out HBB.out; exact ⟨_, _, _, rfl, rfl, rfl, h.1, h.2.1, h.2.2⟩)
        | (have h := tame_two HA.out HXD.out HNB.out HBB.out HNA.out HBA.out; exact ⟨_, _, _, rfl, rfl, rfl, h.2.1, h.1, h.2.2⟩)
  case rest =>
    obtain ⟨f, g, w1, rfl, rfl, rfl, HNa, HNb, HB1⟩ := hcut
    obtain ⟨F, hF⟩ : ∃ F, F = Q.trim (Q.tameL q 33 Za) := ⟨_, rfl⟩
    obtain ⟨G, hG⟩ : ∃ G, G = Q.trim (Q.tameL q 33 Zb) := ⟨_, rfl⟩
    have HPF : Hid (Q.Pol q F) := by rw [hF]; exact (Q.tameL_red (by omega) _ _).trim
    have HPG : Hid (Q.Pol q G) := by rw [hG]; exact (Q.tameL_red (by omega) _ _).trim
    have hFl : F.length ≤ 33 := by rw [hF]; exact Q.tame_len q 33 Za
    have hGl : G.length ≤ 33 := by rw [hG]; exact Q.tame_len q 33 Zb
    rw [← hF] at HNa
    rw [← hG] at HNb
    have HRF1 := Lib.hid HNa.out.rd
    have HRG1 := Lib.hid HNb.out.rd
    obtain ⟨a1, c1, hv1⟩ := HNa.out.rd.shape
    obtain ⟨a2, c2, hv2⟩ := HNb.out.rd.shape
    subst hv1 hv2
    clear hca hcb hXz HXS HVa HVb HXD HA HX hF hG
    by_cases hg0 : G.length = 0
    · have hz : ((G.length : Int) == 0) = true := by rw [beq_iff_eq]; omega
      go_wp2_with (fail)
      refine (awake_is _).mono ?_
      rintro e w9 ⟨rfl, hB⟩
      have HB9 := Lib.hid (HB1.out.trans (hB.mono HB1.out.size))
      clear hB
      go_wp2_with (fail)
      go_ret
      exact ⟨rfl, HB9.out⟩
    · have hz : ((G.length : Int) == 0) = false := by rw [beq_eq_false_iff_ne]; omega
      have hdi := Q.div_is HP.out HPF.out HPG.out hg0
      obtain ⟨dq, hdq⟩ : ∃ dq, dq = (Q.divP q F G).1 := ⟨_, rfl⟩
      obtain ⟨dr, hdr⟩ : ∃ dr, dr = (Q.divP q F G).2 := ⟨_, rfl⟩
      rw [← hdq, ← hdr] at hdi
      have hql : dq.length ≤ 33 := by rw [hdi.qlen]; omega
      have hrl : dr.length < G.length := hdi.rlen
      have hml : (Q.prodP' q dq G).length ≤ 33 := by
        by_cases h0 : dq.length = 0
        · rw [Q.prod_nil (.inl h0)]; simp
        · rw [Q.prod_length h0 hg0]; have := hdi.qlen; omega
      have HSE : Hid (Q.sumP q (Q.prodP' q dq G) dr = F) := by
        refine Q.ev_inj (by omega) (Q.pol_sum (by omega) _ _) HPF.out ?_
        rw [Q.ev_sum, Q.ev_prod, ← hdi.val]
      have HPQ : Hid (Q.Pol q dq ∧ Q.Pol q dr) := ⟨hdi.qpol, hdi.rpol⟩
      have HPM : Hid (Q.Pol q (Q.prodP' q dq G)) := Q.pol_prod HP.out hdi.qpol HPG.out
      have HDD := Lib.hid (And.intro hdq hdr)
      have hdlt : decide (dr.length < G.length) = true := by simpa using hrl
      have hdlt2 : decide ((dr.length : Int) < (G.length : Int)) = true := by rw [decide_eq_true_iff]; omega
      clear hdi hdq hdr
      go_wp2_with (fail)
      refine (Div_ok q F G _ _ _ HP hq HRF1 HRG1 HPF HPG hFl hGl hg0).mono ?_
      rintro e w2 ⟨⟨vq, vr, rfl, hNq, hNr⟩, hB⟩
      rw [← HDD.out.1] at hNq
      rw [← HDD.out.2] at hNr
      have HB2 := Lib.hid (HB1.out.trans (hB.mono HB1.out.size))
      have HRF2 : Hid (Rd w2 (.slice a1 F.length c1) 1 F.length (nats F)) := HRF1.out.below hB (Nat.le_refl _)
      have HRG2 : Hid (Rd w2 (.slice a2 G.length c2) 1 G.length (nats G)) := HRG1.out.below hB (Nat.le_refl _)
      have HQ2 : Hid (Rd w2 vq 1 dq.length (nats dq)) := hNq.rd
      have HR2 : Hid (Rd w2 vr 1 dr.length (nats dr)) := hNr.rd
      obtain ⟨a3, c3, hv3⟩ := hNq.rd.shape
      obtain ⟨a4, c4, hv4⟩ := hNr.rd.shape
      subst hv3 hv4
      have HPQ1 : Hid (Q.Pol q dq) := HPQ.out.1
      have HPR1 : Hid (Q.Pol q dr) := HPQ.out.2
      clear hB hNq hNr HRF1 HRG1 HNa HNb
      go_wp2_with (fail)
      refine (Mul_ok q dq G _ _ _ HP hq HQ2 HRG2 HPQ1 HPG hql hGl hml).mono ?_
      rintro e w3 ⟨⟨vm, rfl, hNm⟩, hB⟩
      have HB3 := Lib.hid (HB2.out.trans (hB.mono HB2.out.size))
      have HRF3 : Hid (Rd w3 (.slice a1 F.length c1) 1 F.length (nats F)) := HRF2.out.below hB (Nat.le_refl _)
      have HR3 : Hid (Rd w3 (.slice a4 dr.length c4) 1 dr.length (nats dr)) := HR2.out.below hB (Nat.le_refl _)
      have HM3 : Hid (Rd w3 vm 1 (Q.prodP' q dq G).length (nats (Q.prodP' q dq G))) := hNm.rd
      obtain ⟨a5, c5, hv5⟩ := hNm.rd.shape
      subst hv5
      clear hB hNm
      go_wp2_with (fail)
      refine (Add_ok q (Q.prodP' q dq G) dr _ _ _ HP hq HM3 HR3 HPM HPR1 hml (by omega)).mono ?_
      rintro e w4 ⟨⟨vs, rfl, hNs⟩, hB⟩
      rw [HSE.out] at hNs
      have HB4 := Lib.hid (HB3.out.trans (hB.mono HB3.out.size))
      have HRF4 : Hid (Rd w4 (.slice a1 F.length c1) 1 F.length (nats F)) := HRF3.out.below hB (Nat.le_refl _)
      have HS4 : Hid (Rd w4 vs 1 F.length (nats F)) := hNs.rd
      obtain ⟨a6, c6, hv6⟩ := hNs.rd.shape
      subst hv6
      clear hB hNs
      go_wp2_with (fail)
      refine (Same_is F F _ _ true _ HS4 HRF4 (by omega) (by omega) ⟨fun _ => rfl, fun _ => rfl⟩).mono ?_
      rintro e w5 ⟨rfl, n5, hw5⟩
      have HB45 : Hid (Below w4.heap.size w4 w5) := by rw [hw5]; exact below_drewN (Below.refl _ _) _
      have HB5 := Lib.hid (HB4.out.trans (HB45.out.mono HB4.out.size))
      clear hw5
      go_wp2_with (fail)
      refine (awake_is _).mono ?_
      rintro e w9 ⟨rfl, hB⟩
      have HB9 := Lib.hid (HB5.out.trans (hB.mono HB5.out.size))
      clear hB
      go_wp2_with (fail)
      go_ret
      exact ⟨rfl, HB9.out⟩


set_option maxRecDepth 100000 in
theorem lifted (os : Os) (started : os.Started) (H : Type) (enc : TypeId × Value → H) :
    ReturnsInHanded {} Try.checked os 11 .any (Rows.polyDividesSpec.pre6 enc Try.prog Try.f11 Rows.polyDividesRow.domain false) (Rows.polyDividesSpec.post enc Try.prog Try.f11 false true false false) := by
  refine returnsInHanded_of_change (C := Try.checked) own started (by kernel_rfl) Try.func11
    (ChangeSpec.witness6 (enc := enc) (C := Try.checked) false ⟨#[], #[.int .i64 0, .agg #[.slice none 0 0, .slice none 0 0]], []⟩ 8 (by kernel_rfl) (by kernel_rfl) (by kernel_rfl) (by kernel_rfl)) ?_
  intro W base args ds gs before hval0 hW hcnd _
  have hval : ∀ (j : Nat) t v, Try.f11.params[j]? = some t → args[j]? = some v → Value.okWide Try.prog W .any base t v := hval0
  have hW' := hW
  obtain ⟨p, q, hA0, hV, rfl, hfz, hnd⟩ := hW
  have hA : DataW.TrodAll enc Try.prog W 0 (fun _ => true) true Try.f11.params.toList args.toList ds p := hA0
  rw [Try.params11] at hA hval
  obtain ⟨v0, vs0, d0, ds0, p0, q0, hargs, rfl, rfl, h0, r0⟩ := trodAll_cons hA
  obtain ⟨v1, vs1, d1, ds1, p1, q1, rfl, rfl, rfl, h1, r1⟩ := trodAll_cons r0
  obtain ⟨rfl, rfl, rfl⟩ := trodAll_nil r1
  obtain rfl : args = #[v0, v1] := by cases args; simp_all
  obtain ⟨rfl, rfl⟩ := trodVars_none hV
  have hlt := hW'.lt
  obtain ⟨a0, rfl, rfl, rfl, w0⟩ := open_int Try.underlying3 (hval 0 3 v0 rfl rfl) h0
  obtain ⟨va1, vb1, Za1, Zb1, rfl, hZa1, hZb1⟩ := argP_of (hval 1 24 v1 rfl rfl) h1
  clear hA0 hval0
  simp only [List.append_nil] at hW'
  refine (walk a0 va1 vb1 Za1 Zb1 W hZa1 hZb1).mono fun e W' ⟨he, hg⟩ => ?_
  subst he
  exact ⟨_, rfl, _, _, _, [], [] ++ (p1 ++ ([])), [], hW', trodAll_cons_mk (shut_bool Try.underlying4 _) trodAll_mk0, trodAll_cons_mk (shut_int Try.underlying3 w0) (trodAll_cons_mk (Below.trod (by kernel_rfl) (by kernel_rfl) (by decide +kernel) h1 hg (fun x hx => hlt x (by simp [hx]))) trodAll_mk0), rfl, hg.frame _, fun h => by cases h⟩

theorem over : Rows.polyDividesRow.holds Try.pinned (OpenSpec.ofChange Rows.polyDividesSpec) :=
  OpenClaim.holds_of_wide 11 Try.f11 rfl rfl rfl rfl rfl rfl rfl ⟨rfl, rfl, rfl, rfl, rfl⟩ rfl rfl rfl rfl rfl (by kernel_rfl) Try.func11 (by kernel_rfl)
    (of_decide_eq_true (by kernel_rfl)) (by unfold Func.isWrapper; first | (rw [if_pos (by decide +kernel)]; kernel_rfl) | (rw [if_neg (by decide +kernel)]; exact ⟨rfl, rfl⟩))
    (fun os started H enc _ => lifted os started H enc)

theorem proved : Rows.PolyDividesSaid := over

end Go.Proofs.Ytgnpohapmijfiaa.polyDivides
