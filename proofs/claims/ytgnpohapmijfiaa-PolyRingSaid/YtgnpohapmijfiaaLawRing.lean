/- Addition and multiplication are commutative, associative and distributive, the values of a sum and a product are those of the parts, and a product divided by a factor is the other factor. No condition. -/
import Derived.Test.YtgnpohapmijfiaaG10
import Derived.Test.YtgnpohapmijfiaaG13
import Derived.Test.YtgnpohapmijfiaaG14
import Derived.Test.YtgnpohapmijfiaaG11
import Derived.Deep.RegionHeld3
import Derived.ProofKit
import Derived.OpenShut
namespace Go.Proofs.Ytgnpohapmijfiaa.polyRing
open Go.ChangeShapes Go.WideShapes Go.ChangeAt Go.RowKit

theorem own : ownKnob Try.prog.godebug = none := by kernel_rfl


theorem plen {q : Nat} {F G : List Nat} {a b : Nat} (h1 : F.length ≤ a) (h2 : G.length ≤ b) (_ha : 1 ≤ a) : (Q.prodP' q F G).length ≤ a + b - 1 := by
  by_cases h0 : F.length = 0 ∨ G.length = 0
  · rw [Q.prod_nil h0]; simp
  · rw [Q.prod_length (by omega) (by omega)]; omega

theorem tame_three {w X W w1 w2 w3 : World} {vA vB vC : Value} {Fa Fb Fc : List Nat} (hA : Below w.heap.size w X) (h0 : Below X.heap.size X W) (hNA : NewL W w1 vA Fa) (hB1 : Below W.heap.size W w1) (hNB : NewL w1 w2 vB Fb) (hB2 : Below w1.heap.size w1 w2) (hNC : NewL w2 w3 vC Fc) (hB3 : Below w2.heap.size w2 w3) :
    NewL w w3 vA Fa ∧ NewL w w3 vB Fb ∧ NewL w w3 vC Fc ∧ Below w.heap.size w w3 := by
  have h := tame_two hA h0 hNA hB1 hNB hB2
  have s := h.2.2.size
  exact ⟨own_kept h.1 hB3, own_kept h.2.1 hB3, own_base hNC s, h.2.2.trans (hB3.mono s)⟩

set_option maxRecDepth 100000 in
set_option maxHeartbeats 8000000 in
theorem walk (p : Int) (va vb vc : Value) (Za Zb Zc : List Int) (w : World) (hva : Hid (ArgI w va Za)) (hvb : Hid (ArgI w vb Zb)) (hvc : Hid (ArgI w vc Zc)) :
    Calls Try.prog 10 #[.int .i64 p, .agg #[va, vb], vc] w fun e w' => e = .returned (.bool true) ∧ Below w.heap.size w w' := by
  obtain ⟨xa, na, ca, hsa⟩ := hva.out.form
  obtain ⟨xb, nb, cb, hsb⟩ := hvb.out.form
  obtain ⟨xc, nc, cc, hsc⟩ := hvc.out.form
  subst hsa hsb hsc
  obtain ⟨X, hX⟩ : ∃ X, X = w.alloc (.cells #[.slice xa na ca, .slice xb nb cb] 24) := ⟨_, rfl⟩
  have HA : Hid (Below w.heap.size w X) := by rw [hX]; exact (Below.refl _ _).alloc (Nat.le_refl _) _
  have hXz : w.heap.size < X.heap.size := by rw [hX]; simp
  have hca : X.cell? ⟨w.heap.size, 0, none⟩ = some (.slice xa na ca) := by rw [hX]; simp
  have hcb : X.cell? ⟨w.heap.size, 1, none⟩ = some (.slice xb nb cb) := by rw [hX]; simp
  have HXS : Hid (∀ W, Below X.heap.size X W → W.cell? ⟨w.heap.size, 0, none⟩ = some (.slice xa na ca) ∧ W.cell? ⟨w.heap.size, 1, none⟩ = some (.slice xb nb cb)) := fun W h =>
    ⟨by rw [h.cell (p := ⟨w.heap.size, 0, none⟩) hXz]; exact hca, by rw [h.cell (p := ⟨w.heap.size, 1, none⟩) hXz]; exact hcb⟩
  have HVa : Hid (∀ W, Below X.heap.size X W → ArgI W (.slice xa na ca) Za) := fun W h => (hva.out.below HA.out).below h
  have HVb : Hid (∀ W, Below X.heap.size X W → ArgI W (.slice xb nb cb) Zb) := fun W h => (hvb.out.below HA.out).below h
  have HVc : Hid (∀ W, Below X.heap.size X W → ArgI W (.slice xc nc cc) Zc) := fun W h => (hvc.out.below HA.out).below h
  have HXD : Hid (Below X.heap.size X X.drew) := (Below.refl _ _).drew
  clear hva hvb hvc
  go_enter Try.func10, Try.ntmps10
  go_wp2_with (fail)
  rw [← hX]
  have HX := Lib.hid hX
  clear hX
  refine (field_is p X).mono ?_
  rintro e wz ⟨⟨q, rfl, hP0, hq⟩, hw⟩
  subst hw
  have HP := Lib.hid hP0
  have hp2 : 2 ≤ q := hP0.1
  clear hP0
  go_upto_region 2 with fail
  go_cut [7, 8, 9] (fun f g k wx => ∃ (vf vg vk : Value) (W5 : World), f = vf ∧ g = vg ∧ k = vk ∧ W5 = wx ∧ Hid (NewL w wx vf (Q.trim (Q.tameL q 10 Za))) ∧ Hid (NewL w wx vg (Q.trim (Q.tameL q 10 Zb))) ∧ Hid (NewL w wx vk (Q.trim (Q.tameL q 10 Zc))) ∧ Hid (Below w.heap.size w wx))
  case first =>
    go_region_held3 (fun w' => w'.cell? ⟨w.heap.size, 0, none⟩ = some (.slice xa na ca) ∧ w'.cell? ⟨w.heap.size, 1, none⟩ = some (.slice xb nb cb)) (first | exact ⟨k1, k2⟩ | exact HXS.out _ HXD.out)
      ((go_at_call 41; refine (tame_is q 10 _ _ _ hp2 hq (by omega) (by first | exact HVa.out _ (by first | exact HXD.out | exact HKA.out | exact HKB.out | exact HKC.out) | exact HVb.out _ (by first | exact HXD.out | exact HKA.out | exact HKB.out | exact HKC.out) | exact HVc.out _ (by first | exact HXD.out | exact HKA.out | exact HKB.out | exact HKC.out))).mono ?_; rintro e wN ⟨⟨vN, rfl, hN⟩, hB⟩; have hK : Below X.heap.size X wN := own_step (by first | exact HXD.out | exact HKA.out | exact HKB.out | exact HKC.out) hB; have k1 := (HXS.out _ hK).1; have k2 := (HXS.out _ hK).2; first | (have HNA : Hid (NewL _ wN vN (Q.trim (Q.tameL q 10 Za))) := hN; have HKA := Lib.hid hK; have HBA := Lib.hid hB) | (have HNB : Hid (NewL _ wN vN (Q.trim (Q.tameL q 10 Zb))) := hN; have HKB := Lib.hid hK; have HBB := Lib.hid hB) | (have HNC : Hid (NewL _ wN vN (Q.trim (Q.tameL q 10 Zc))) := hN; have HKC := Lib.hid hK; have HBC := Lib.hid hB); clear hN hB hK))
    all_goals
      go_wp2_with (fail)
      go_meet
      first
        | (have h := tame_three HA.out HXD.out HNA.out HBA.out HNB.out HBB.out HNC.out HBC.out; exact ⟨_, _, _, _, rfl, rfl, rfl, rfl, h.1, h.2.1, h.2.2.1, h.2.2.2⟩)
        | (have h := tame_three HA.out HXD.out HNA.out HBA.out HNC.out HBC.out HNB.out HBB.out; exact ⟨_, _, _, _, rfl, rfl, rfl, rfl, h.1, h.2.2.1, h.2.1, h.2.2.2⟩)
        | (have h := tame_three HA.out HXD.out HNB.out HBB.out HNA.out HBA.out HNC.out HBC.out; exact ⟨_, _, _, _, rfl, rfl, rfl, rfl, h.2.1, h.1, h.2.2.1, h.2.2.2⟩)
        | (have h := tame_three HA.out HXD.out HNB.out HBB.out HNC.out HBC.out HNA.out HBA.out; exact ⟨_, _, _, _, rfl, rfl, rfl, rfl, h.2.2.1, h.1, h.2.1, h.2.2.2⟩)
        | (have h := tame_three HA.out HXD.out HNC.out HBC.out HNA.out HBA.out HNB.out HBB.out; exact ⟨_, _, _, _, rfl, rfl, rfl, rfl, h.2.1, h.2.2.1, h.1, h.2.2.2⟩)
        | (have h := tame_three HA.out HXD.out HNC.out HBC.out HNB.out HBB.out HNA.out HBA.out; exact ⟨_, _, _, _, rfl, rfl, rfl, rfl, h.2.2.1, h.2.1, h.1, h.2.2.2⟩)
  case rest =>
    obtain ⟨f, g, k, w1, rfl, rfl, rfl, rfl, HNa, HNb, HNc, HB1⟩ := hcut
    obtain ⟨F, hF⟩ : ∃ F, F = Q.trim (Q.tameL q 10 Za) := ⟨_, rfl⟩
    obtain ⟨G, hG⟩ : ∃ G, G = Q.trim (Q.tameL q 10 Zb) := ⟨_, rfl⟩
    obtain ⟨K, hK⟩ : ∃ K, K = Q.trim (Q.tameL q 10 Zc) := ⟨_, rfl⟩
    have HPF : Hid (Q.Pol q F) := by rw [hF]; exact (Q.tameL_red (by omega) _ _).trim
    have HPG : Hid (Q.Pol q G) := by rw [hG]; exact (Q.tameL_red (by omega) _ _).trim
    have HPK : Hid (Q.Pol q K) := by rw [hK]; exact (Q.tameL_red (by omega) _ _).trim
    have hFl : F.length ≤ 10 := by rw [hF]; exact Q.tame_len q 10 Za
    have hGl : G.length ≤ 10 := by rw [hG]; exact Q.tame_len q 10 Zb
    have hKl : K.length ≤ 10 := by rw [hK]; exact Q.tame_len q 10 Zc
    rw [← hF] at HNa
    rw [← hG] at HNb
    rw [← hK] at HNc
    have HRF1 := Lib.hid HNa.out.rd
    have HRG1 := Lib.hid HNb.out.rd
    have HRK1 := Lib.hid HNc.out.rd
    obtain ⟨a1, c1, hv1⟩ := HNa.out.rd.shape
    obtain ⟨a2, c2, hv2⟩ := HNb.out.rd.shape
    obtain ⟨a3, c3, hv3⟩ := HNc.out.rd.shape
    subst hv1 hv2 hv3
    have RF1 : Hid (Rd w1 (.slice a1 F.length c1) 1 F.length (nats F)) := HRF1.out
    have RG1 : Hid (Rd w1 (.slice a2 G.length c2) 1 G.length (nats G)) := HRG1.out
    have RK1 : Hid (Rd w1 (.slice a3 K.length c3) 1 K.length (nats K)) := HRK1.out
    clear HRF1 HRG1 HRK1
    clear hca hcb hXz HXS HVa HVb HVc HXD HA HX hF hG hK HNa HNb HNc
    obtain ⟨S, hS⟩ : ∃ S, S = Q.sumP q F G := ⟨_, rfl⟩
    obtain ⟨M, hM⟩ : ∃ M, M = Q.prodP' q F G := ⟨_, rfl⟩
    obtain ⟨U, hU⟩ : ∃ U, U = Q.prodP' q S K := ⟨_, rfl⟩
    obtain ⟨V, hV⟩ : ∃ V, V = Q.prodP' q F K := ⟨_, rfl⟩
    obtain ⟨T, hT⟩ : ∃ T, T = Q.prodP' q G K := ⟨_, rfl⟩
    obtain ⟨Y, hY⟩ : ∃ Y, Y = Q.prodP' q M K := ⟨_, rfl⟩
    have hFld := Q.fld_of HP.out
    have HPS : Hid (Q.Pol q S) := by rw [hS]; exact Q.pol_sum (by omega) _ _
    have HPM : Hid (Q.Pol q M) := by rw [hM]; exact Q.pol_prod HP.out HPF.out HPG.out
    have HPV : Hid (Q.Pol q V) := by rw [hV]; exact Q.pol_prod HP.out HPF.out HPK.out
    have HPT : Hid (Q.Pol q T) := by rw [hT]; exact Q.pol_prod HP.out HPG.out HPK.out
    have hSl : S.length ≤ 10 := by rw [hS]; exact Nat.le_trans (Q.sum_len (by omega)) (by omega)
    have hMl : M.length ≤ 19 := by rw [hM]; exact plen hFl hGl (by omega)
    have hUl : U.length ≤ 19 := by rw [hU]; exact plen hSl hKl (by omega)
    have hVl : V.length ≤ 19 := by rw [hV]; exact plen hFl hKl (by omega)
    have hTl : T.length ≤ 19 := by rw [hT]; exact plen hGl hKl (by omega)
    have hYl : Y.length ≤ 28 := by rw [hY]; exact plen hMl hKl (by omega)
    have HE : Hid (Q.sumP q G F = S ∧ Q.prodP' q G F = M ∧ Q.sumP q V T = U ∧ Q.prodP' q F T = Y) := by
      refine ⟨by rw [hS, Q.sum_comm], by rw [hM, Q.prod_comm'], ?_, ?_⟩
      · rw [hV, hT, hU, hS]; exact (Q.prod_sum hFld HPK.out).symm
      · rw [hT, hY, hM]; exact (Q.prod_assoc hFld HPF.out HPG.out HPK.out).symm
    have HD : Hid (∀ _ : G.length ≠ 0, Q.divP q M G = (F, [])) := fun h0 => Q.div_exact HP.out HPM.out HPG.out h0 HPF.out (by rw [hM, Q.ev_prod])
    have HVS : Hid (∀ x, x < q → Q.valP q S x = (Q.valP q F x + Q.valP q G x) % q) := fun x hx => by rw [hS]; exact Q.val_sum HP.out (by omega) _ _
    have HVM : Hid (∀ x, x < q → Q.valP q M x = Q.valP q F x * Q.valP q G x % q) := fun x hx => by rw [hM]; exact Q.val_prod HP.out (by omega) HPF.out HPG.out
    have HS := Lib.hid hS
    have HM := Lib.hid hM
    have HU := Lib.hid hU
    have HV := Lib.hid hV
    have HT := Lib.hid hT
    have HY := Lib.hid hY
    clear hS hM hU hV hT hY hFld
    go_wp2_with (fail)
    refine (Add_ok q F G _ _ _ HP hq RF1 RG1 HPF HPG (by omega) (by omega)).mono ?_
    rintro e w2 ⟨⟨vz, rfl, hN⟩, hB⟩
    rw [← HS.out] at hN
    have HB2 := Lib.hid (HB1.out.trans (hB.mono HB1.out.size))
    have RF2 : Hid (Rd w2 (.slice a1 F.length c1) 1 F.length (nats F)) := RF1.out.below hB (Nat.le_refl _)
    have RG2 : Hid (Rd w2 (.slice a2 G.length c2) 1 G.length (nats G)) := RG1.out.below hB (Nat.le_refl _)
    have RK2 : Hid (Rd w2 (.slice a3 K.length c3) 1 K.length (nats K)) := RK1.out.below hB (Nat.le_refl _)
    clear RF1 RG1 RK1
    have RS2 : Hid (Rd w2 vz 1 S.length (nats S)) := hN.rd
    obtain ⟨qS, kS, hvS⟩ := hN.rd.shape
    subst hvS
    clear hN
    clear hB
    go_wp2_with (fail)
    refine (Add_ok q G F _ _ _ HP hq RG2 RF2 HPG HPF (by omega) (by omega)).mono ?_
    rintro e w3 ⟨⟨vz, rfl, hN⟩, hB⟩
    rw [HE.out.1] at hN
    have HB3 := Lib.hid (HB2.out.trans (hB.mono HB2.out.size))
    have RF3 : Hid (Rd w3 (.slice a1 F.length c1) 1 F.length (nats F)) := RF2.out.below hB (Nat.le_refl _)
    have RG3 : Hid (Rd w3 (.slice a2 G.length c2) 1 G.length (nats G)) := RG2.out.below hB (Nat.le_refl _)
    have RK3 : Hid (Rd w3 (.slice a3 K.length c3) 1 K.length (nats K)) := RK2.out.below hB (Nat.le_refl _)
    have RS3 : Hid (Rd w3 (.slice qS S.length kS) 1 S.length (nats S)) := RS2.out.below hB (Nat.le_refl _)
    clear RF2 RG2 RK2 RS2
    have RSb3 : Hid (Rd w3 vz 1 S.length (nats S)) := hN.rd
    obtain ⟨qSb, kSb, hvSb⟩ := hN.rd.shape
    subst hvSb
    clear hN
    clear hB
    go_wp2_with (fail)
    refine (Mul_ok q F G _ _ _ HP hq RF3 RG3 HPF HPG (by omega) (by omega) (by rw [← HM.out]; omega)).mono ?_
    rintro e w4 ⟨⟨vz, rfl, hN⟩, hB⟩
    rw [← HM.out] at hN
    have HB4 := Lib.hid (HB3.out.trans (hB.mono HB3.out.size))
    have RF4 : Hid (Rd w4 (.slice a1 F.length c1) 1 F.length (nats F)) := RF3.out.below hB (Nat.le_refl _)
    have RG4 : Hid (Rd w4 (.slice a2 G.length c2) 1 G.length (nats G)) := RG3.out.below hB (Nat.le_refl _)
    have RK4 : Hid (Rd w4 (.slice a3 K.length c3) 1 K.length (nats K)) := RK3.out.below hB (Nat.le_refl _)
    have RS4 : Hid (Rd w4 (.slice qS S.length kS) 1 S.length (nats S)) := RS3.out.below hB (Nat.le_refl _)
    have RSb4 : Hid (Rd w4 (.slice qSb S.length kSb) 1 S.length (nats S)) := RSb3.out.below hB (Nat.le_refl _)
    clear RF3 RG3 RK3 RS3 RSb3
    have RM4 : Hid (Rd w4 vz 1 M.length (nats M)) := hN.rd
    obtain ⟨qM, kM, hvM⟩ := hN.rd.shape
    subst hvM
    clear hN
    clear hB
    go_wp2_with (fail)
    refine (Mul_ok q G F _ _ _ HP hq RG4 RF4 HPG HPF (by omega) (by omega) (by rw [HE.out.2.1]; omega)).mono ?_
    rintro e w5 ⟨⟨vz, rfl, hN⟩, hB⟩
    rw [HE.out.2.1] at hN
    have HB5 := Lib.hid (HB4.out.trans (hB.mono HB4.out.size))
    have RF5 : Hid (Rd w5 (.slice a1 F.length c1) 1 F.length (nats F)) := RF4.out.below hB (Nat.le_refl _)
    have RG5 : Hid (Rd w5 (.slice a2 G.length c2) 1 G.length (nats G)) := RG4.out.below hB (Nat.le_refl _)
    have RK5 : Hid (Rd w5 (.slice a3 K.length c3) 1 K.length (nats K)) := RK4.out.below hB (Nat.le_refl _)
    have RS5 : Hid (Rd w5 (.slice qS S.length kS) 1 S.length (nats S)) := RS4.out.below hB (Nat.le_refl _)
    have RSb5 : Hid (Rd w5 (.slice qSb S.length kSb) 1 S.length (nats S)) := RSb4.out.below hB (Nat.le_refl _)
    have RM5 : Hid (Rd w5 (.slice qM M.length kM) 1 M.length (nats M)) := RM4.out.below hB (Nat.le_refl _)
    clear RF4 RG4 RK4 RS4 RSb4 RM4
    have RMb5 : Hid (Rd w5 vz 1 M.length (nats M)) := hN.rd
    obtain ⟨qMb, kMb, hvMb⟩ := hN.rd.shape
    subst hvMb
    clear hN
    clear hB
    go_wp2_with (fail)
    refine (Mul_ok q S K _ _ _ HP hq RS5 RK5 HPS HPK (by omega) (by omega) (by rw [← HU.out]; omega)).mono ?_
    rintro e w6 ⟨⟨vz, rfl, hN⟩, hB⟩
    rw [← HU.out] at hN
    have HB6 := Lib.hid (HB5.out.trans (hB.mono HB5.out.size))
    have RF6 : Hid (Rd w6 (.slice a1 F.length c1) 1 F.length (nats F)) := RF5.out.below hB (Nat.le_refl _)
    have RG6 : Hid (Rd w6 (.slice a2 G.length c2) 1 G.length (nats G)) := RG5.out.below hB (Nat.le_refl _)
    have RK6 : Hid (Rd w6 (.slice a3 K.length c3) 1 K.length (nats K)) := RK5.out.below hB (Nat.le_refl _)
    have RS6 : Hid (Rd w6 (.slice qS S.length kS) 1 S.length (nats S)) := RS5.out.below hB (Nat.le_refl _)
    have RSb6 : Hid (Rd w6 (.slice qSb S.length kSb) 1 S.length (nats S)) := RSb5.out.below hB (Nat.le_refl _)
    have RM6 : Hid (Rd w6 (.slice qM M.length kM) 1 M.length (nats M)) := RM5.out.below hB (Nat.le_refl _)
    have RMb6 : Hid (Rd w6 (.slice qMb M.length kMb) 1 M.length (nats M)) := RMb5.out.below hB (Nat.le_refl _)
    clear RF5 RG5 RK5 RS5 RSb5 RM5 RMb5
    have RU6 : Hid (Rd w6 vz 1 U.length (nats U)) := hN.rd
    obtain ⟨qU, kU, hvU⟩ := hN.rd.shape
    subst hvU
    clear hN
    clear hB
    go_wp2_with (fail)
    refine (Mul_ok q F K _ _ _ HP hq RF6 RK6 HPF HPK (by omega) (by omega) (by rw [← HV.out]; omega)).mono ?_
    rintro e w7 ⟨⟨vz, rfl, hN⟩, hB⟩
    rw [← HV.out] at hN
    have HB7 := Lib.hid (HB6.out.trans (hB.mono HB6.out.size))
    have RF7 : Hid (Rd w7 (.slice a1 F.length c1) 1 F.length (nats F)) := RF6.out.below hB (Nat.le_refl _)
    have RG7 : Hid (Rd w7 (.slice a2 G.length c2) 1 G.length (nats G)) := RG6.out.below hB (Nat.le_refl _)
    have RK7 : Hid (Rd w7 (.slice a3 K.length c3) 1 K.length (nats K)) := RK6.out.below hB (Nat.le_refl _)
    have RS7 : Hid (Rd w7 (.slice qS S.length kS) 1 S.length (nats S)) := RS6.out.below hB (Nat.le_refl _)
    have RSb7 : Hid (Rd w7 (.slice qSb S.length kSb) 1 S.length (nats S)) := RSb6.out.below hB (Nat.le_refl _)
    have RM7 : Hid (Rd w7 (.slice qM M.length kM) 1 M.length (nats M)) := RM6.out.below hB (Nat.le_refl _)
    have RMb7 : Hid (Rd w7 (.slice qMb M.length kMb) 1 M.length (nats M)) := RMb6.out.below hB (Nat.le_refl _)
    have RU7 : Hid (Rd w7 (.slice qU U.length kU) 1 U.length (nats U)) := RU6.out.below hB (Nat.le_refl _)
    clear RF6 RG6 RK6 RS6 RSb6 RM6 RMb6 RU6
    have RV7 : Hid (Rd w7 vz 1 V.length (nats V)) := hN.rd
    obtain ⟨qV, kV, hvV⟩ := hN.rd.shape
    subst hvV
    clear hN
    clear hB
    go_wp2_with (fail)
    refine (Mul_ok q G K _ _ _ HP hq RG7 RK7 HPG HPK (by omega) (by omega) (by rw [← HT.out]; omega)).mono ?_
    rintro e w8 ⟨⟨vz, rfl, hN⟩, hB⟩
    rw [← HT.out] at hN
    have HB8 := Lib.hid (HB7.out.trans (hB.mono HB7.out.size))
    have RF8 : Hid (Rd w8 (.slice a1 F.length c1) 1 F.length (nats F)) := RF7.out.below hB (Nat.le_refl _)
    have RG8 : Hid (Rd w8 (.slice a2 G.length c2) 1 G.length (nats G)) := RG7.out.below hB (Nat.le_refl _)
    have RK8 : Hid (Rd w8 (.slice a3 K.length c3) 1 K.length (nats K)) := RK7.out.below hB (Nat.le_refl _)
    have RS8 : Hid (Rd w8 (.slice qS S.length kS) 1 S.length (nats S)) := RS7.out.below hB (Nat.le_refl _)
    have RSb8 : Hid (Rd w8 (.slice qSb S.length kSb) 1 S.length (nats S)) := RSb7.out.below hB (Nat.le_refl _)
    have RM8 : Hid (Rd w8 (.slice qM M.length kM) 1 M.length (nats M)) := RM7.out.below hB (Nat.le_refl _)
    have RMb8 : Hid (Rd w8 (.slice qMb M.length kMb) 1 M.length (nats M)) := RMb7.out.below hB (Nat.le_refl _)
    have RU8 : Hid (Rd w8 (.slice qU U.length kU) 1 U.length (nats U)) := RU7.out.below hB (Nat.le_refl _)
    have RV8 : Hid (Rd w8 (.slice qV V.length kV) 1 V.length (nats V)) := RV7.out.below hB (Nat.le_refl _)
    clear RF7 RG7 RK7 RS7 RSb7 RM7 RMb7 RU7 RV7
    have RT8 : Hid (Rd w8 vz 1 T.length (nats T)) := hN.rd
    obtain ⟨qT, kT, hvT⟩ := hN.rd.shape
    subst hvT
    clear hN
    clear hB
    go_wp2_with (fail)
    refine (Add_ok q V T _ _ _ HP hq RV8 RT8 HPV HPT (by omega) (by omega)).mono ?_
    rintro e w9 ⟨⟨vz, rfl, hN⟩, hB⟩
    rw [HE.out.2.2.1] at hN
    have HB9 := Lib.hid (HB8.out.trans (hB.mono HB8.out.size))
    have RF9 : Hid (Rd w9 (.slice a1 F.length c1) 1 F.length (nats F)) := RF8.out.below hB (Nat.le_refl _)
    have RG9 : Hid (Rd w9 (.slice a2 G.length c2) 1 G.length (nats G)) := RG8.out.below hB (Nat.le_refl _)
    have RK9 : Hid (Rd w9 (.slice a3 K.length c3) 1 K.length (nats K)) := RK8.out.below hB (Nat.le_refl _)
    have RS9 : Hid (Rd w9 (.slice qS S.length kS) 1 S.length (nats S)) := RS8.out.below hB (Nat.le_refl _)
    have RSb9 : Hid (Rd w9 (.slice qSb S.length kSb) 1 S.length (nats S)) := RSb8.out.below hB (Nat.le_refl _)
    have RM9 : Hid (Rd w9 (.slice qM M.length kM) 1 M.length (nats M)) := RM8.out.below hB (Nat.le_refl _)
    have RMb9 : Hid (Rd w9 (.slice qMb M.length kMb) 1 M.length (nats M)) := RMb8.out.below hB (Nat.le_refl _)
    have RU9 : Hid (Rd w9 (.slice qU U.length kU) 1 U.length (nats U)) := RU8.out.below hB (Nat.le_refl _)
    have RV9 : Hid (Rd w9 (.slice qV V.length kV) 1 V.length (nats V)) := RV8.out.below hB (Nat.le_refl _)
    have RT9 : Hid (Rd w9 (.slice qT T.length kT) 1 T.length (nats T)) := RT8.out.below hB (Nat.le_refl _)
    clear RF8 RG8 RK8 RS8 RSb8 RM8 RMb8 RU8 RV8 RT8
    have RUb9 : Hid (Rd w9 vz 1 U.length (nats U)) := hN.rd
    obtain ⟨qUb, kUb, hvUb⟩ := hN.rd.shape
    subst hvUb
    clear hN
    clear hB
    go_wp2_with (fail)
    refine (Same_is S S _ _ true _ RS9 RSb9 (by omega) (by omega) ⟨fun _ => rfl, fun _ => rfl⟩).mono ?_
    rintro e w10 ⟨rfl, nn, hw⟩
    have hB : Below w9.heap.size w9 w10 := by rw [hw]; exact below_drewN (Below.refl _ _) _
    clear hw
    have HB10 := Lib.hid (HB9.out.trans (hB.mono HB9.out.size))
    have RF10 : Hid (Rd w10 (.slice a1 F.length c1) 1 F.length (nats F)) := RF9.out.below hB (Nat.le_refl _)
    have RG10 : Hid (Rd w10 (.slice a2 G.length c2) 1 G.length (nats G)) := RG9.out.below hB (Nat.le_refl _)
    have RK10 : Hid (Rd w10 (.slice a3 K.length c3) 1 K.length (nats K)) := RK9.out.below hB (Nat.le_refl _)
    have RS10 : Hid (Rd w10 (.slice qS S.length kS) 1 S.length (nats S)) := RS9.out.below hB (Nat.le_refl _)
    have RSb10 : Hid (Rd w10 (.slice qSb S.length kSb) 1 S.length (nats S)) := RSb9.out.below hB (Nat.le_refl _)
    have RM10 : Hid (Rd w10 (.slice qM M.length kM) 1 M.length (nats M)) := RM9.out.below hB (Nat.le_refl _)
    have RMb10 : Hid (Rd w10 (.slice qMb M.length kMb) 1 M.length (nats M)) := RMb9.out.below hB (Nat.le_refl _)
    have RU10 : Hid (Rd w10 (.slice qU U.length kU) 1 U.length (nats U)) := RU9.out.below hB (Nat.le_refl _)
    have RT10 : Hid (Rd w10 (.slice qT T.length kT) 1 T.length (nats T)) := RT9.out.below hB (Nat.le_refl _)
    have RUb10 : Hid (Rd w10 (.slice qUb U.length kUb) 1 U.length (nats U)) := RUb9.out.below hB (Nat.le_refl _)
    clear RF9 RG9 RK9 RS9 RSb9 RM9 RMb9 RU9 RT9 RUb9
    clear hB
    go_wp2_with (fail)
    refine (Same_is M M _ _ true _ RM10 RMb10 (by omega) (by omega) ⟨fun _ => rfl, fun _ => rfl⟩).mono ?_
    rintro e w11 ⟨rfl, nn, hw⟩
    have hB : Below w10.heap.size w10 w11 := by rw [hw]; exact below_drewN (Below.refl _ _) _
    clear hw
    have HB11 := Lib.hid (HB10.out.trans (hB.mono HB10.out.size))
    have RF11 : Hid (Rd w11 (.slice a1 F.length c1) 1 F.length (nats F)) := RF10.out.below hB (Nat.le_refl _)
    have RG11 : Hid (Rd w11 (.slice a2 G.length c2) 1 G.length (nats G)) := RG10.out.below hB (Nat.le_refl _)
    have RK11 : Hid (Rd w11 (.slice a3 K.length c3) 1 K.length (nats K)) := RK10.out.below hB (Nat.le_refl _)
    have RS11 : Hid (Rd w11 (.slice qS S.length kS) 1 S.length (nats S)) := RS10.out.below hB (Nat.le_refl _)
    have RM11 : Hid (Rd w11 (.slice qM M.length kM) 1 M.length (nats M)) := RM10.out.below hB (Nat.le_refl _)
    have RMb11 : Hid (Rd w11 (.slice qMb M.length kMb) 1 M.length (nats M)) := RMb10.out.below hB (Nat.le_refl _)
    have RU11 : Hid (Rd w11 (.slice qU U.length kU) 1 U.length (nats U)) := RU10.out.below hB (Nat.le_refl _)
    have RT11 : Hid (Rd w11 (.slice qT T.length kT) 1 T.length (nats T)) := RT10.out.below hB (Nat.le_refl _)
    have RUb11 : Hid (Rd w11 (.slice qUb U.length kUb) 1 U.length (nats U)) := RUb10.out.below hB (Nat.le_refl _)
    clear RF10 RG10 RK10 RS10 RM10 RMb10 RU10 RT10 RUb10
    clear hB
    go_wp2_with (fail)
    refine (Same_is U U _ _ true _ RU11 RUb11 (by omega) (by omega) ⟨fun _ => rfl, fun _ => rfl⟩).mono ?_
    rintro e w12 ⟨rfl, nn, hw⟩
    have hB : Below w11.heap.size w11 w12 := by rw [hw]; exact below_drewN (Below.refl _ _) _
    clear hw
    have HB12 := Lib.hid (HB11.out.trans (hB.mono HB11.out.size))
    have RF12 : Hid (Rd w12 (.slice a1 F.length c1) 1 F.length (nats F)) := RF11.out.below hB (Nat.le_refl _)
    have RG12 : Hid (Rd w12 (.slice a2 G.length c2) 1 G.length (nats G)) := RG11.out.below hB (Nat.le_refl _)
    have RK12 : Hid (Rd w12 (.slice a3 K.length c3) 1 K.length (nats K)) := RK11.out.below hB (Nat.le_refl _)
    have RS12 : Hid (Rd w12 (.slice qS S.length kS) 1 S.length (nats S)) := RS11.out.below hB (Nat.le_refl _)
    have RM12 : Hid (Rd w12 (.slice qM M.length kM) 1 M.length (nats M)) := RM11.out.below hB (Nat.le_refl _)
    have RU12 : Hid (Rd w12 (.slice qU U.length kU) 1 U.length (nats U)) := RU11.out.below hB (Nat.le_refl _)
    have RT12 : Hid (Rd w12 (.slice qT T.length kT) 1 T.length (nats T)) := RT11.out.below hB (Nat.le_refl _)
    have RUb12 : Hid (Rd w12 (.slice qUb U.length kUb) 1 U.length (nats U)) := RUb11.out.below hB (Nat.le_refl _)
    clear RF11 RG11 RK11 RS11 RM11 RU11 RT11 RUb11
    clear hB
    go_wp2_with (fail)
    refine (Mul_ok q M K _ _ _ HP hq RM12 RK12 HPM HPK (by omega) (by omega) (by rw [← HY.out]; omega)).mono ?_
    rintro e w13 ⟨⟨vz, rfl, hN⟩, hB⟩
    rw [← HY.out] at hN
    have HB13 := Lib.hid (HB12.out.trans (hB.mono HB12.out.size))
    have RF13 : Hid (Rd w13 (.slice a1 F.length c1) 1 F.length (nats F)) := RF12.out.below hB (Nat.le_refl _)
    have RG13 : Hid (Rd w13 (.slice a2 G.length c2) 1 G.length (nats G)) := RG12.out.below hB (Nat.le_refl _)
    have RK13 : Hid (Rd w13 (.slice a3 K.length c3) 1 K.length (nats K)) := RK12.out.below hB (Nat.le_refl _)
    have RS13 : Hid (Rd w13 (.slice qS S.length kS) 1 S.length (nats S)) := RS12.out.below hB (Nat.le_refl _)
    have RM13 : Hid (Rd w13 (.slice qM M.length kM) 1 M.length (nats M)) := RM12.out.below hB (Nat.le_refl _)
    have RT13 : Hid (Rd w13 (.slice qT T.length kT) 1 T.length (nats T)) := RT12.out.below hB (Nat.le_refl _)
    clear RF12 RG12 RK12 RS12 RM12 RT12
    have RY13 : Hid (Rd w13 vz 1 Y.length (nats Y)) := hN.rd
    obtain ⟨qY, kY, hvY⟩ := hN.rd.shape
    subst hvY
    clear hN
    clear hB
    go_wp2_with (fail)
    refine (Mul_ok q F T _ _ _ HP hq RF13 RT13 HPF HPT (by omega) (by omega) (by rw [HE.out.2.2.2]; omega)).mono ?_
    rintro e w14 ⟨⟨vz, rfl, hN⟩, hB⟩
    rw [HE.out.2.2.2] at hN
    have HB14 := Lib.hid (HB13.out.trans (hB.mono HB13.out.size))
    have RF14 : Hid (Rd w14 (.slice a1 F.length c1) 1 F.length (nats F)) := RF13.out.below hB (Nat.le_refl _)
    have RG14 : Hid (Rd w14 (.slice a2 G.length c2) 1 G.length (nats G)) := RG13.out.below hB (Nat.le_refl _)
    have RK14 : Hid (Rd w14 (.slice a3 K.length c3) 1 K.length (nats K)) := RK13.out.below hB (Nat.le_refl _)
    have RS14 : Hid (Rd w14 (.slice qS S.length kS) 1 S.length (nats S)) := RS13.out.below hB (Nat.le_refl _)
    have RM14 : Hid (Rd w14 (.slice qM M.length kM) 1 M.length (nats M)) := RM13.out.below hB (Nat.le_refl _)
    have RT14 : Hid (Rd w14 (.slice qT T.length kT) 1 T.length (nats T)) := RT13.out.below hB (Nat.le_refl _)
    have RY14 : Hid (Rd w14 (.slice qY Y.length kY) 1 Y.length (nats Y)) := RY13.out.below hB (Nat.le_refl _)
    clear RF13 RG13 RK13 RS13 RM13 RT13 RY13
    have RYb14 : Hid (Rd w14 vz 1 Y.length (nats Y)) := hN.rd
    obtain ⟨qYb, kYb, hvYb⟩ := hN.rd.shape
    subst hvYb
    clear hN
    clear hB
    go_wp2_with (fail)
    refine (Same_is Y Y _ _ true _ RY14 RYb14 (by omega) (by omega) ⟨fun _ => rfl, fun _ => rfl⟩).mono ?_
    rintro e w15 ⟨rfl, nn, hw⟩
    have hB : Below w14.heap.size w14 w15 := by rw [hw]; exact below_drewN (Below.refl _ _) _
    clear hw
    have HB15 := Lib.hid (HB14.out.trans (hB.mono HB14.out.size))
    have RF15 : Hid (Rd w15 (.slice a1 F.length c1) 1 F.length (nats F)) := RF14.out.below hB (Nat.le_refl _)
    have RG15 : Hid (Rd w15 (.slice a2 G.length c2) 1 G.length (nats G)) := RG14.out.below hB (Nat.le_refl _)
    have RK15 : Hid (Rd w15 (.slice a3 K.length c3) 1 K.length (nats K)) := RK14.out.below hB (Nat.le_refl _)
    have RS15 : Hid (Rd w15 (.slice qS S.length kS) 1 S.length (nats S)) := RS14.out.below hB (Nat.le_refl _)
    have RM15 : Hid (Rd w15 (.slice qM M.length kM) 1 M.length (nats M)) := RM14.out.below hB (Nat.le_refl _)
    have RT15 : Hid (Rd w15 (.slice qT T.length kT) 1 T.length (nats T)) := RT14.out.below hB (Nat.le_refl _)
    have RY15 : Hid (Rd w15 (.slice qY Y.length kY) 1 Y.length (nats Y)) := RY14.out.below hB (Nat.le_refl _)
    have RYb15 : Hid (Rd w15 (.slice qYb Y.length kYb) 1 Y.length (nats Y)) := RYb14.out.below hB (Nat.le_refl _)
    clear RF14 RG14 RK14 RS14 RM14 RT14 RY14 RYb14
    clear hB
    by_cases h0 : G.length = 0
    · have hz : decide (0 < G.length) = false := by rw [decide_eq_false_iff_not]; omega
      clear h0
      have hzq : ((q : Int) == 0) = false := by simp; omega
      go_wp2_with (fail)
      go_loopw [33] (fun iv wx => ∃ (k : Nat), iv = .int .i64 k ∧ k ≤ 5 ∧ Hid (Below w15.heap.size w15 wx)) (fun iv _ => 5 - (intOf iv).toNat)
      case atStart => exact ⟨0, rfl, by omega, Below.refl _ _⟩
      case round =>
        obtain ⟨k, rfl, hk, HBk⟩ := hrel
        by_cases h5 : k < 5
        · by_cases hkq : k < q
          · have RF0 : Hid (Rd wr (.slice a1 F.length c1) 1 F.length (nats F)) := RF15.out.below HBk.out (Nat.le_refl _)
            have RG0 : Hid (Rd wr (.slice a2 G.length c2) 1 G.length (nats G)) := RG15.out.below HBk.out (Nat.le_refl _)
            have RS0 : Hid (Rd wr (.slice qS S.length kS) 1 S.length (nats S)) := RS15.out.below HBk.out (Nat.le_refl _)
            have RM0 : Hid (Rd wr (.slice qM M.length kM) 1 M.length (nats M)) := RM15.out.below HBk.out (Nat.le_refl _)
            obtain ⟨x, hx⟩ : ∃ x, x = Q.valP q F k := ⟨_, rfl⟩
            obtain ⟨y, hy⟩ : ∃ y, y = Q.valP q G k := ⟨_, rfl⟩
            obtain ⟨s, hs⟩ : ∃ s, s = Q.valP q S k := ⟨_, rfl⟩
            obtain ⟨m, hm⟩ : ∃ m, m = Q.valP q M k := ⟨_, rfl⟩
            have hxq : x < q := by rw [hx]; exact Q.val_lt (by omega) _ _
            have hyq : y < q := by rw [hy]; exact Q.val_lt (by omega) _ _
            have hs2 : s = (x + y) % q := by rw [hs, hx, hy]; exact HVS.out k hkq
            have hm2 : m = x * y % q := by rw [hm, hx, hy]; exact HVM.out k hkq
            have hxy : x * y ≤ 1021 * 1021 := Nat.mul_le_mul (by omega) (by omega)
            have hb2 : (0 : Int) ≤ (x : Int) * (y : Int) ∧ (x : Int) * (y : Int) ≤ 1042441 := by
              have h : (x : Int) * (y : Int) = ((x * y : Nat) : Int) := by simp
              omega
            have he1 : ((s : Int) == ((x : Int) + (y : Int)) % (q : Int)) = true := by rw [beq_iff_eq, hs2]; rfl
            have he2 : ((m : Int) == ((x : Int) * (y : Int)) % (q : Int)) = true := by rw [beq_iff_eq, hm2]; rfl
            have he3 : ((s : Int) != ((x : Int) + (y : Int)) % (q : Int)) = false := by rw [bne, he1]; rfl
            have he4 : ((m : Int) != ((x : Int) * (y : Int)) % (q : Int)) = false := by rw [bne, he2]; rfl
            have HX1 := Lib.hid hx
            have HX2 := Lib.hid hy
            have HX3 := Lib.hid hs
            have HX4 := Lib.hid hm
            clear hx hy hs hm hs2 hm2 hxy
            go_wp2_with (fail)
            refine (Value_ok q k F _ _ HP hq hkq RF0 HPF (by omega)).mono ?_
            rintro e u1 ⟨rfl, hB⟩
            have C1 := Lib.hid (HBk.out.trans (hB.mono HBk.out.size))
            have RG1 : Hid (Rd u1 (.slice a2 G.length c2) 1 G.length (nats G)) := RG0.out.below hB (Nat.le_refl _)
            have RS1 : Hid (Rd u1 (.slice qS S.length kS) 1 S.length (nats S)) := RS0.out.below hB (Nat.le_refl _)
            have RM1 : Hid (Rd u1 (.slice qM M.length kM) 1 M.length (nats M)) := RM0.out.below hB (Nat.le_refl _)
            rw [← HX1.out]
            clear hB
            go_wp2_with (fail)
            refine (Value_ok q k G _ _ HP hq hkq RG1 HPG (by omega)).mono ?_
            rintro e u2 ⟨rfl, hB⟩
            have C2 := Lib.hid (C1.out.trans (hB.mono C1.out.size))
            have RS2 : Hid (Rd u2 (.slice qS S.length kS) 1 S.length (nats S)) := RS1.out.below hB (Nat.le_refl _)
            have RM2 : Hid (Rd u2 (.slice qM M.length kM) 1 M.length (nats M)) := RM1.out.below hB (Nat.le_refl _)
            rw [← HX2.out]
            clear hB
            go_wp2_with (fail)
            refine (Value_ok q k S _ _ HP hq hkq RS2 HPS (by omega)).mono ?_
            rintro e u3 ⟨rfl, hB⟩
            have C3 := Lib.hid (C2.out.trans (hB.mono C2.out.size))
            have RM3 : Hid (Rd u3 (.slice qM M.length kM) 1 M.length (nats M)) := RM2.out.below hB (Nat.le_refl _)
            rw [← HX3.out]
            clear hB
            go_wp2_with (fail)
            refine (Value_ok q k M _ _ HP hq hkq RM3 HPM (by omega)).mono ?_
            rintro e u4 ⟨rfl, hB⟩
            have C4 := Lib.hid (C3.out.trans (hB.mono C3.out.size))
            rw [← HX4.out]
            clear hB
            go_wp2_with (fail)
            go_roundw
            case rel => exact ⟨k + 1, by go_num, by omega, C4⟩
            case measure => simp [intOf]; omega
          · have hkq2 : q ≤ k := by omega
            have HBZ := Lib.hid (HB15.out.trans (HBk.out.mono HB15.out.size))
            go_wp2_with (fail)
            refine (awake_is _).mono ?_
            rintro e w9 ⟨rfl, hB⟩
            have HB99 := Lib.hid (HBZ.out.trans (hB.mono HBZ.out.size))
            clear hB
            go_wp2_with (fail)
            go_ret
            exact ⟨rfl, HB99.out⟩
        · have h55 : k = 5 := by omega
          subst h55
          by_cases hkq : 5 < q
          · skip
            have HBZ := Lib.hid (HB15.out.trans (HBk.out.mono HB15.out.size))
            go_wp2_with (fail)
            refine (awake_is _).mono ?_
            rintro e w9 ⟨rfl, hB⟩
            have HB99 := Lib.hid (HBZ.out.trans (hB.mono HBZ.out.size))
            clear hB
            go_wp2_with (fail)
            go_ret
            exact ⟨rfl, HB99.out⟩
          · have hkq2 : q ≤ 5 := by omega
            have HBZ := Lib.hid (HB15.out.trans (HBk.out.mono HB15.out.size))
            go_wp2_with (fail)
            refine (awake_is _).mono ?_
            rintro e w9 ⟨rfl, hB⟩
            have HB99 := Lib.hid (HBZ.out.trans (hB.mono HBZ.out.size))
            clear hB
            go_wp2_with (fail)
            go_ret
            exact ⟨rfl, HB99.out⟩
    · have hz : decide (0 < G.length) = true := by rw [decide_eq_true_iff]; omega
      have HDQ := Lib.hid (HD.out h0)
      go_wp2_with (fail)
      refine (Div_ok q M G _ _ _ HP hq RM15 RG15 HPM HPG (by omega) (by omega) h0).mono ?_
      rintro e w16 ⟨⟨vq, vr, rfl, hNq, hNr⟩, hB⟩
      rw [HDQ.out] at hNq hNr
      have HB16 := Lib.hid (HB15.out.trans (hB.mono HB15.out.size))
      have RF16 : Hid (Rd w16 (.slice a1 F.length c1) 1 F.length (nats F)) := RF15.out.below hB (Nat.le_refl _)
      have RG16 : Hid (Rd w16 (.slice a2 G.length c2) 1 G.length (nats G)) := RG15.out.below hB (Nat.le_refl _)
      have RS16 : Hid (Rd w16 (.slice qS S.length kS) 1 S.length (nats S)) := RS15.out.below hB (Nat.le_refl _)
      have RM16 : Hid (Rd w16 (.slice qM M.length kM) 1 M.length (nats M)) := RM15.out.below hB (Nat.le_refl _)
      clear RF15 RG15 RS15 RM15
      have RX16 : Hid (Rd w16 vq 1 F.length (nats F)) := hNq.rd
      obtain ⟨qX, kX, hvX⟩ := hNq.rd.shape
      subst hvX
      clear hNq
      have RZ16 : Hid (Rd w16 vr 1 ([] : List Nat).length (nats ([] : List Nat))) := hNr.rd
      obtain ⟨qZ, kZ, hvZ⟩ := hNr.rd.shape
      subst hvZ
      clear hNr
      clear hB
      go_wp2_with (fail)
      refine (Same_is F F _ _ true _ RX16 RF16 (by omega) (by omega) ⟨fun _ => rfl, fun _ => rfl⟩).mono ?_
      rintro e w17 ⟨rfl, nn, hw⟩
      have hB : Below w16.heap.size w16 w17 := by rw [hw]; exact below_drewN (Below.refl _ _) _
      clear hw
      have HB17 := Lib.hid (HB16.out.trans (hB.mono HB16.out.size))
      have RF17 : Hid (Rd w17 (.slice a1 F.length c1) 1 F.length (nats F)) := RF16.out.below hB (Nat.le_refl _)
      have RG17 : Hid (Rd w17 (.slice a2 G.length c2) 1 G.length (nats G)) := RG16.out.below hB (Nat.le_refl _)
      have RS17 : Hid (Rd w17 (.slice qS S.length kS) 1 S.length (nats S)) := RS16.out.below hB (Nat.le_refl _)
      have RM17 : Hid (Rd w17 (.slice qM M.length kM) 1 M.length (nats M)) := RM16.out.below hB (Nat.le_refl _)
      have RX17 : Hid (Rd w17 (.slice qX F.length kX) 1 F.length (nats F)) := RX16.out.below hB (Nat.le_refl _)
      clear RF16 RG16 RS16 RM16 RX16
      clear hB
      have hzq : ((q : Int) == 0) = false := by simp; omega
      go_wp2_with (fail)
      go_loopw [33] (fun iv wx => ∃ (k : Nat), iv = .int .i64 k ∧ k ≤ 5 ∧ Hid (Below w17.heap.size w17 wx)) (fun iv _ => 5 - (intOf iv).toNat)
      case atStart => exact ⟨0, rfl, by omega, Below.refl _ _⟩
      case round =>
        obtain ⟨k, rfl, hk, HBk⟩ := hrel
        by_cases h5 : k < 5
        · by_cases hkq : k < q
          · have RF0 : Hid (Rd wr (.slice a1 F.length c1) 1 F.length (nats F)) := RF17.out.below HBk.out (Nat.le_refl _)
            have RG0 : Hid (Rd wr (.slice a2 G.length c2) 1 G.length (nats G)) := RG17.out.below HBk.out (Nat.le_refl _)
            have RS0 : Hid (Rd wr (.slice qS S.length kS) 1 S.length (nats S)) := RS17.out.below HBk.out (Nat.le_refl _)
            have RM0 : Hid (Rd wr (.slice qM M.length kM) 1 M.length (nats M)) := RM17.out.below HBk.out (Nat.le_refl _)
            obtain ⟨x, hx⟩ : ∃ x, x = Q.valP q F k := ⟨_, rfl⟩
            obtain ⟨y, hy⟩ : ∃ y, y = Q.valP q G k := ⟨_, rfl⟩
            obtain ⟨s, hs⟩ : ∃ s, s = Q.valP q S k := ⟨_, rfl⟩
            obtain ⟨m, hm⟩ : ∃ m, m = Q.valP q M k := ⟨_, rfl⟩
            have hxq : x < q := by rw [hx]; exact Q.val_lt (by omega) _ _
            have hyq : y < q := by rw [hy]; exact Q.val_lt (by omega) _ _
            have hs2 : s = (x + y) % q := by rw [hs, hx, hy]; exact HVS.out k hkq
            have hm2 : m = x * y % q := by rw [hm, hx, hy]; exact HVM.out k hkq
            have hxy : x * y ≤ 1021 * 1021 := Nat.mul_le_mul (by omega) (by omega)
            have hb2 : (0 : Int) ≤ (x : Int) * (y : Int) ∧ (x : Int) * (y : Int) ≤ 1042441 := by
              have h : (x : Int) * (y : Int) = ((x * y : Nat) : Int) := by simp
              omega
            have he1 : ((s : Int) == ((x : Int) + (y : Int)) % (q : Int)) = true := by rw [beq_iff_eq, hs2]; rfl
            have he2 : ((m : Int) == ((x : Int) * (y : Int)) % (q : Int)) = true := by rw [beq_iff_eq, hm2]; rfl
            have he3 : ((s : Int) != ((x : Int) + (y : Int)) % (q : Int)) = false := by rw [bne, he1]; rfl
            have he4 : ((m : Int) != ((x : Int) * (y : Int)) % (q : Int)) = false := by rw [bne, he2]; rfl
            have HX1 := Lib.hid hx
            have HX2 := Lib.hid hy
            have HX3 := Lib.hid hs
            have HX4 := Lib.hid hm
            clear hx hy hs hm hs2 hm2 hxy
            go_wp2_with (fail)
            refine (Value_ok q k F _ _ HP hq hkq RF0 HPF (by omega)).mono ?_
            rintro e u1 ⟨rfl, hB⟩
            have C1 := Lib.hid (HBk.out.trans (hB.mono HBk.out.size))
            have RG1 : Hid (Rd u1 (.slice a2 G.length c2) 1 G.length (nats G)) := RG0.out.below hB (Nat.le_refl _)
            have RS1 : Hid (Rd u1 (.slice qS S.length kS) 1 S.length (nats S)) := RS0.out.below hB (Nat.le_refl _)
            have RM1 : Hid (Rd u1 (.slice qM M.length kM) 1 M.length (nats M)) := RM0.out.below hB (Nat.le_refl _)
            rw [← HX1.out]
            clear hB
            go_wp2_with (fail)
            refine (Value_ok q k G _ _ HP hq hkq RG1 HPG (by omega)).mono ?_
            rintro e u2 ⟨rfl, hB⟩
            have C2 := Lib.hid (C1.out.trans (hB.mono C1.out.size))
            have RS2 : Hid (Rd u2 (.slice qS S.length kS) 1 S.length (nats S)) := RS1.out.below hB (Nat.le_refl _)
            have RM2 : Hid (Rd u2 (.slice qM M.length kM) 1 M.length (nats M)) := RM1.out.below hB (Nat.le_refl _)
            rw [← HX2.out]
            clear hB
            go_wp2_with (fail)
            refine (Value_ok q k S _ _ HP hq hkq RS2 HPS (by omega)).mono ?_
            rintro e u3 ⟨rfl, hB⟩
            have C3 := Lib.hid (C2.out.trans (hB.mono C2.out.size))
            have RM3 : Hid (Rd u3 (.slice qM M.length kM) 1 M.length (nats M)) := RM2.out.below hB (Nat.le_refl _)
            rw [← HX3.out]
            clear hB
            go_wp2_with (fail)
            refine (Value_ok q k M _ _ HP hq hkq RM3 HPM (by omega)).mono ?_
            rintro e u4 ⟨rfl, hB⟩
            have C4 := Lib.hid (C3.out.trans (hB.mono C3.out.size))
            rw [← HX4.out]
            clear hB
            go_wp2_with (fail)
            go_roundw
            case rel => exact ⟨k + 1, by go_num, by omega, C4⟩
            case measure => simp [intOf]; omega
          · have hkq2 : q ≤ k := by omega
            have HBZ := Lib.hid (HB17.out.trans (HBk.out.mono HB17.out.size))
            go_wp2_with (fail)
            refine (awake_is _).mono ?_
            rintro e w9 ⟨rfl, hB⟩
            have HB99 := Lib.hid (HBZ.out.trans (hB.mono HBZ.out.size))
            clear hB
            go_wp2_with (fail)
            go_ret
            exact ⟨rfl, HB99.out⟩
        · have h55 : k = 5 := by omega
          subst h55
          by_cases hkq : 5 < q
          · skip
            have HBZ := Lib.hid (HB17.out.trans (HBk.out.mono HB17.out.size))
            go_wp2_with (fail)
            refine (awake_is _).mono ?_
            rintro e w9 ⟨rfl, hB⟩
            have HB99 := Lib.hid (HBZ.out.trans (hB.mono HBZ.out.size))
            clear hB
            go_wp2_with (fail)
            go_ret
            exact ⟨rfl, HB99.out⟩
          · have hkq2 : q ≤ 5 := by omega
            have HBZ := Lib.hid (HB17.out.trans (HBk.out.mono HB17.out.size))
            go_wp2_with (fail)
            refine (awake_is _).mono ?_
            rintro e w9 ⟨rfl, hB⟩
            have HB99 := Lib.hid (HBZ.out.trans (hB.mono HBZ.out.size))
            clear hB
            go_wp2_with (fail)
            go_ret
            exact ⟨rfl, HB99.out⟩


set_option maxRecDepth 100000 in
theorem lifted (os : Os) (started : os.Started) (H : Type) (enc : TypeId × Value → H) :
    ReturnsInHanded {} Try.checked os 10 .any (Rows.polyRingSpec.pre6 enc Try.prog Try.f10 Rows.polyRingRow.domain false) (Rows.polyRingSpec.post enc Try.prog Try.f10 false true false false) := by
  refine returnsInHanded_of_change (C := Try.checked) own started (by kernel_rfl) Try.func10
    (ChangeSpec.witness6 (enc := enc) (C := Try.checked) false ⟨#[], #[.int .i64 0, .agg #[.slice none 0 0, .slice none 0 0], .slice none 0 0], []⟩ 8 (by kernel_rfl) (by kernel_rfl) (by kernel_rfl) (by kernel_rfl)) ?_
  intro W base args ds gs before hval0 hW hcnd _
  have hval : ∀ (j : Nat) t v, Try.f10.params[j]? = some t → args[j]? = some v → Value.okWide Try.prog W .any base t v := hval0
  have hW' := hW
  obtain ⟨p, q, hA0, hV, rfl, hfz, hnd⟩ := hW
  have hA : DataW.TrodAll enc Try.prog W 0 (fun _ => true) true Try.f10.params.toList args.toList ds p := hA0
  rw [Try.params10] at hA hval
  obtain ⟨v0, vs0, d0, ds0, p0, q0, hargs, rfl, rfl, h0, r0⟩ := trodAll_cons hA
  obtain ⟨v1, vs1, d1, ds1, p1, q1, rfl, rfl, rfl, h1, r1⟩ := trodAll_cons r0
  obtain ⟨v2, vs2, d2, ds2, p2, q2, rfl, rfl, rfl, h2, r2⟩ := trodAll_cons r1
  obtain ⟨rfl, rfl, rfl⟩ := trodAll_nil r2
  obtain rfl : args = #[v0, v1, v2] := by cases args; simp_all
  obtain ⟨rfl, rfl⟩ := trodVars_none hV
  have hlt := hW'.lt
  obtain ⟨a0, rfl, rfl, rfl, w0⟩ := open_int Try.underlying3 (hval 0 3 v0 rfl rfl) h0
  obtain ⟨va1, vb1, Za1, Zb1, rfl, hZa1, hZb1⟩ := argP_of (hval 1 24 v1 rfl rfl) h1
  obtain ⟨Z2, hZ2⟩ := argI_of (hval 2 22 v2 rfl rfl) h2
  clear hA0 hval0
  simp only [List.append_nil] at hW'
  refine (walk a0 va1 vb1 v2 Za1 Zb1 Z2 W hZa1 hZb1 hZ2).mono fun e W' ⟨he, hg⟩ => ?_
  subst he
  exact ⟨_, rfl, _, _, _, [], [] ++ (p1 ++ (p2 ++ ([]))), [], hW', trodAll_cons_mk (shut_bool Try.underlying4 _) trodAll_mk0, trodAll_cons_mk (shut_int Try.underlying3 w0) (trodAll_cons_mk (Below.trod (by kernel_rfl) (by kernel_rfl) (by decide +kernel) h1 hg (fun x hx => hlt x (by simp [hx]))) (trodAll_cons_mk (Below.trod (by kernel_rfl) (by kernel_rfl) (by decide +kernel) h2 hg (fun x hx => hlt x (by simp [hx]))) trodAll_mk0)), rfl, hg.frame _, fun h => by cases h⟩

theorem over : Rows.polyRingRow.holds Try.pinned (OpenSpec.ofChange Rows.polyRingSpec) :=
  OpenClaim.holds_of_wide 10 Try.f10 rfl rfl rfl rfl rfl rfl rfl ⟨rfl, rfl, rfl, rfl, rfl⟩ rfl rfl rfl rfl rfl (by kernel_rfl) Try.func10 (by kernel_rfl)
    (of_decide_eq_true (by kernel_rfl)) (by unfold Func.isWrapper; first | (rw [if_pos (by decide +kernel)]; kernel_rfl) | (rw [if_neg (by decide +kernel)]; exact ⟨rfl, rfl⟩))
    (fun os started H enc _ => lifted os started H enc)

theorem proved : Rows.PolyRingSaid := over

end Go.Proofs.Ytgnpohapmijfiaa.polyRing
