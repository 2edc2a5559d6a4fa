/- The greatest common divisor divides both polynomials, is the combination of both with the returned cofactors, and does not depend on the order of the polynomials. No condition. -/
import Derived.Test.YtgnpohapmijfiaaG10
import Derived.Test.YtgnpohapmijfiaaG13
import Derived.Test.YtgnpohapmijfiaaG14
import Derived.Deep.RegionHeld3
import Derived.ProofKit
import Derived.OpenShut
namespace Go.Proofs.Ytgnpohapmijfiaa.polyBezout
open Go.ChangeShapes Go.WideShapes Go.ChangeAt Go.RowKit

theorem own : ownKnob Try.prog.godebug = none := by kernel_rfl


theorem lens {p m : Nat} (hm1 : 1 ≤ m) (hP : M.Pr p) {F G R A : List Nat} (hF : Q.Pol p F) (hG : Q.Pol p G) (h1 : F.length ≤ m) (h2 : G.length ≤ m) (hX : Q.XgIs p F G R A) :
    Q.Pol p (Q.monicP p R) ∧ (Q.monicP p R).length ≤ m ∧ (Q.gcdA p R A).length ≤ m ∧ (Q.gcdB p F G R A).length ≤ m := by
  have hR : R.length ≤ m := by
    by_cases h0 : G.length = 0
    · rw [(hX.none h0).1]; exact h1
    · have := hX.bound h0; omega
  have hA : A.length ≤ m := by
    by_cases h0 : G.length = 0
    · rw [(hX.none h0).2]; simpa using hm1
    · have := hX.bound h0; omega
  have hD : Q.Pol p (Q.monicP p R) ∧ (Q.monicP p R).length ≤ m := by
    by_cases h0 : R.length = 0
    · rw [Q.monicP, if_pos h0]; exact ⟨Q.Pol.nil p, by simp⟩
    · have hm := Q.monic_is hP hX.rpol h0
      exact ⟨hm.1, by rw [hm.2.2.1]; exact hR⟩
  refine ⟨hD.1, hD.2, ?_, ?_⟩
  · by_cases h0 : R.length = 0
    · rw [Q.gcdA, Q.monicC, if_pos h0, Q.prod_nil (.inr rfl)]; simp
    · obtain ⟨c, hc, _⟩ := Q.monicC_pol hP hX.rpol h0
      rw [Q.gcdA, hc]
      by_cases h3 : A.length = 0
      · rw [Q.prod_nil (.inl h3)]; simp
      · rw [Q.prod_length h3 (by simp)]; simp; omega
  · have hO := Q.gcdOut hP hF hG hX
    by_cases h0 : G.length = 0
    · have := (hO.g0 h0).1; omega
    · by_cases h3 : F.length = 0
      · have := (hO.f0 h0 h3).2; omega
      · have hb := hO.bound h0 h3
        have hD0 : (Q.monicP p R).length ≠ 0 := by
          intro h
          have h1 := (Q.gcdP_is hP hF hG).zero.1 (by rw [← hO.isgcd]; exact List.eq_nil_of_length_eq_zero h)
          rw [h1.1] at h3; simp at h3
        have hx := (Q.div_is hP hF hD.1 hD0).qlen
        split at hb
        · omega
        · omega

set_option maxRecDepth 100000 in
set_option maxHeartbeats 4000000 in
theorem walk (p : Int) (va vb : Value) (Za Zb : List Int) (w : World) (hva : Hid (ArgI w va Za)) (hvb : Hid (ArgI w vb Zb)) :
    Calls Try.prog 12 #[.int .i64 p, .agg #[va, vb]] w fun e w' => e = .returned (.bool true) ∧ Below w.heap.size w w' := by
  obtain ⟨xa, na, ca, hsa⟩ := hva.out.form
  obtain ⟨xb, nb, cb, hsb⟩ := hvb.out.form
  subst hsa hsb
  obtain ⟨X, hX⟩ : ∃ X, X = w.alloc (.cells #[.slice xa na ca, .slice xb nb cb] 24) := ⟨_, rfl⟩
  have HA : Hid (Below w.heap.size w X) := by rw [hX]; exact (Below.refl _ _).alloc (Nat.le_refl _) _
  have hXz : w.heap.size < X.heap.size := by rw [hX]; simp
  have hca : X.cell? ⟨w.heap.size, 0, none⟩ = some (.slice xa na ca) := by rw [hX]; simp
  have hcb : X.cell? ⟨w.heap.size, 1, none⟩ = some (.slice xb nb cb) := by rw [hX]; simp
  have HXS : Hid (∀ W, Below X.heap.size X W → W.cell? ⟨w.heap.size, 0, none⟩ = some (.slice xa na ca) ∧ W.cell? ⟨w.heap.size, 1, none⟩ = some (.slice xb nb cb)) := fun W h =>
    ⟨by rw [h.cell (p := ⟨w.heap.size, 0, none⟩) hXz]; exact hca, by rw [h.cell (p := ⟨w.heap.size, 1, none⟩) hXz]; exact hcb⟩
  have HVa : Hid (∀ W, Below X.heap.size X W → ArgI W (.slice xa na ca) Za) := fun W h => (hva.out.below HA.out).below h
  have HVb : Hid (∀ W, Below X.heap.size X W → ArgI W (.slice xb nb cb) Zb) := fun W h => (hvb.out.below HA.out).below h
  have HXD : Hid (Below X.heap.size X X.drew) := (Below.refl _ _).drew
  clear hva hvb
  go_enter Try.func12, Try.ntmps12
  go_wp2_with (fail)
  rw [← hX]
  have HX := Lib.hid hX
  clear hX
  refine (field_is p X).mono ?_
  rintro e wz ⟨⟨q, rfl, hP0, hq⟩, hw⟩
  subst hw
  have HP := Lib.hid hP0
  have hp2 : 2 ≤ q := hP0.1
  clear hP0
  go_upto_region 2 with fail
  go_cut [5, 6] (fun f g wx => ∃ (vf vg : Value) (W5 : World), f = vf ∧ g = vg ∧ W5 = wx ∧ Hid (NewL w wx vf (Q.trim (Q.tameL q 16 Za))) ∧ Hid (NewL w wx vg (Q.trim (Q.tameL q 16 Zb))) ∧ Hid (Below w.heap.size w wx))
  case first =>
    go_region_held3 (fun w' => w'.cell? ⟨w.heap.size, 0, none⟩ = some (.slice xa na ca) ∧ w'.cell? ⟨w.heap.size, 1, none⟩ = some (.slice xb nb cb)) (first | exact ⟨k1, k2⟩ | exact HXS.out _ HXD.out)
      ((go_at_call 41; refine (tame_is q 16 _ _ _ hp2 hq (by omega) (by first | exact HVa.out _ (by first | exact HXD.out | exact HKB.out) | exact HVb.out _ (by first | exact HXD.out | exact HKA.out))).mono ?_; rintro e wN ⟨⟨vN, rfl, hN⟩, hB⟩; have hK : Below X.heap.size X wN := own_step (by first | exact HXD.out | exact HKA.out | exact HKB.out) hB; have k1 := (HXS.out _ hK).1; have k2 := (HXS.out _ hK).2; first | (have HNA : Hid (NewL _ wN vN (Q.trim (Q.tameL q 16 Za))) := hN; have HKA := Lib.hid hK; have HBA := Lib.hid hB) | (have HNB : Hid (NewL _ wN vN (Q.trim (Q.tameL q 16 Zb))) := hN; have HKB := Lib.hid hK; have HBB := Lib.hid hB); clear hN hB hK))
    all_goals
      go_wp2_with (fail)
      go_meet
      first
        | (have h := tame_two HA.out HXD.out HNA.out HBA.out HNB.out HBB.out; exact ⟨_, _, _, rfl, rfl, rfl, h.1, h.2.1, h.2.2⟩)
        | (have h := tame_two HA.out HXD.out HNB.out HBB.out HNA.out HBA.out; exact ⟨_, _, _, rfl, rfl, rfl, h.2.1, h.1, h.2.2⟩)
  case rest =>
    obtain ⟨f, g, w1, rfl, rfl, rfl, HNa, HNb, HB1⟩ := hcut
    obtain ⟨F, hF⟩ : ∃ F, F = Q.trim (Q.tameL q 16 Za) := ⟨_, rfl⟩
    obtain ⟨G, hG⟩ : ∃ G, G = Q.trim (Q.tameL q 16 Zb) := ⟨_, rfl⟩
    have HPF : Hid (Q.Pol q F) := by rw [hF]; exact (Q.tameL_red (by omega) _ _).trim
    have HPG : Hid (Q.Pol q G) := by rw [hG]; exact (Q.tameL_red (by omega) _ _).trim
    have hFl : F.length ≤ 16 := by rw [hF]; exact Q.tame_len q 16 Za
    have hGl : G.length ≤ 16 := by rw [hG]; exact Q.tame_len q 16 Zb
    rw [← hF] at HNa
    rw [← hG] at HNb
    have HRF1 := Lib.hid HNa.out.rd
    have HRG1 := Lib.hid HNb.out.rd
    obtain ⟨a1, c1, hv1⟩ := HNa.out.rd.shape
    obtain ⟨a2, c2, hv2⟩ := HNb.out.rd.shape
    subst hv1 hv2
    clear hca hcb hXz HXS HVa HVb HXD HA HX hF hG
    have RF1 : Hid (Rd w1 (.slice a1 F.length c1) 1 F.length (nats F)) := HRF1.out
    have RG1 : Hid (Rd w1 (.slice a2 G.length c2) 1 G.length (nats G)) := HRG1.out
    clear HRF1 HRG1 HNa HNb
    obtain ⟨RR, AA, hxl, hxi⟩ := Q.xgcd_is HP.out HPF.out HPG.out
    obtain ⟨RS, AS, hyl, hyi⟩ := Q.xgcd_is HP.out HPG.out HPF.out
    have HXL := Lib.hid hxl
    have HXI := Lib.hid hxi
    have HYL := Lib.hid hyl
    have HYI := Lib.hid hyi
    have hln := lens (m := 16) (by omega) HP.out HPF.out HPG.out hFl hGl hxi
    have HO := Lib.hid (Q.gcdOut HP.out HPF.out HPG.out hxi)
    have hyO := Q.gcdOut HP.out HPG.out HPF.out hyi
    obtain ⟨D, hD⟩ : ∃ D, D = Q.monicP q RR := ⟨_, rfl⟩
    obtain ⟨A, hA⟩ : ∃ A, A = Q.gcdA q RR AA := ⟨_, rfl⟩
    obtain ⟨B, hB⟩ : ∃ B, B = Q.gcdB q F G RR AA := ⟨_, rfl⟩
    rw [← hD, ← hA, ← hB] at hln HO
    have hgi := Q.gcdP_is HP.out HPF.out HPG.out
    have HCD : Hid (Q.monicP q RS = D) := by
      show _ = _
      rw [hyO.isgcd, HO.out.isgcd]
      exact (Q.gcdP_is HP.out HPG.out HPF.out).unique HP.out hgi.symm
    have HPD : Hid (Q.Pol q D) := hln.1
    have hDl := hln.2.1
    have hAl := hln.2.2.1
    have hBl := hln.2.2.2
    have HPA : Hid (Q.Pol q A) := HO.out.apol
    have HPB : Hid (Q.Pol q B) := HO.out.bpol
    obtain ⟨Mm, hMm⟩ : ∃ Mm, Mm = Q.prodP' q A F := ⟨_, rfl⟩
    obtain ⟨Nn, hNn⟩ : ∃ Nn, Nn = Q.prodP' q B G := ⟨_, rfl⟩
    have hMl : Mm.length ≤ 33 := by
      rw [hMm]
      by_cases h0 : A.length = 0 ∨ F.length = 0
      · rw [Q.prod_nil h0]; simp
      · rw [Q.prod_length (by omega) (by omega)]; omega
    have hNl : Nn.length ≤ 33 := by
      rw [hNn]
      by_cases h0 : B.length = 0 ∨ G.length = 0
      · rw [Q.prod_nil h0]; simp
      · rw [Q.prod_length (by omega) (by omega)]; omega
    have HPM : Hid (Q.Pol q Mm) := by rw [hMm]; exact Q.pol_prod HP.out HPA.out HPF.out
    have HPN : Hid (Q.Pol q Nn) := by rw [hNn]; exact Q.pol_prod HP.out HPB.out HPG.out
    have HSD : Hid (Q.sumP q Mm Nn = D) := by show _ = _; rw [hMm, hNn]; exact HO.out.comb
    have HMN := Lib.hid (And.intro hMm hNn)
    have HDAB := Lib.hid (And.intro hD (And.intro hA hB))
    have hgd : Q.gcdP q F G = D := HO.out.isgcd.symm
    rw [hgd] at hgi
    have HGI := Lib.hid hgi
    clear hxl hxi hyl hyi hln hD hA hB hyO hgi hMm hNn hgd
    go_wp2_with (fail)
    refine (Gcd_ok q F G RR AA _ _ _ HP hq RF1 RG1 HPF HPG (by omega) (by omega) HXL HXI).mono ?_
    rintro e w2 ⟨⟨vd, va, vb, rfl, hNd, hNa, hNb⟩, hB⟩
    rw [← HDAB.out.1] at hNd
    rw [← HDAB.out.2.1] at hNa
    rw [← HDAB.out.2.2] at hNb
    have HB2 := Lib.hid (HB1.out.trans (hB.mono HB1.out.size))
    have RF2 : Hid (Rd w2 (.slice a1 F.length c1) 1 F.length (nats F)) := RF1.out.below hB (Nat.le_refl _)
    have RG2 : Hid (Rd w2 (.slice a2 G.length c2) 1 G.length (nats G)) := RG1.out.below hB (Nat.le_refl _)
    clear RF1 RG1
    have RD2 : Hid (Rd w2 vd 1 D.length (nats D)) := hNd.rd
    obtain ⟨qD, kD, hvD⟩ := hNd.rd.shape
    subst hvD
    clear hNd
    have RA2 : Hid (Rd w2 va 1 A.length (nats A)) := hNa.rd
    obtain ⟨qA, kA, hvA⟩ := hNa.rd.shape
    subst hvA
    clear hNa
    have RB2 : Hid (Rd w2 vb 1 B.length (nats B)) := hNb.rd
    obtain ⟨qB, kB, hvB⟩ := hNb.rd.shape
    subst hvB
    clear hNb
    clear hB
    go_wp2_with (fail)
    refine (Gcd_ok q G F RS AS _ _ _ HP hq RG2 RF2 HPG HPF (by omega) (by omega) HYL HYI).mono ?_
    rintro e w3 ⟨⟨vc, vx, vy, rfl, hNc, hNx, hNy⟩, hB⟩
    rw [HCD.out] at hNc
    obtain ⟨qx, kx, hvx⟩ := hNx.rd.shape
    obtain ⟨qy, ky, hvy⟩ := hNy.rd.shape
    subst hvx hvy
    clear hNx hNy
    have HB3 := Lib.hid (HB2.out.trans (hB.mono HB2.out.size))
    have RF3 : Hid (Rd w3 (.slice a1 F.length c1) 1 F.length (nats F)) := RF2.out.below hB (Nat.le_refl _)
    have RG3 : Hid (Rd w3 (.slice a2 G.length c2) 1 G.length (nats G)) := RG2.out.below hB (Nat.le_refl _)
    have RD3 : Hid (Rd w3 (.slice qD D.length kD) 1 D.length (nats D)) := RD2.out.below hB (Nat.le_refl _)
    have RA3 : Hid (Rd w3 (.slice qA A.length kA) 1 A.length (nats A)) := RA2.out.below hB (Nat.le_refl _)
    have RB3 : Hid (Rd w3 (.slice qB B.length kB) 1 B.length (nats B)) := RB2.out.below hB (Nat.le_refl _)
    clear RF2 RG2 RD2 RA2 RB2
    have RC3 : Hid (Rd w3 vc 1 D.length (nats D)) := hNc.rd
    obtain ⟨qC, kC, hvC⟩ := hNc.rd.shape
    subst hvC
    clear hNc
    clear hB
    go_wp2_with (fail)
    refine (Mul_ok q A F _ _ _ HP hq RA3 RF3 HPA HPF (by omega) (by omega) (by rw [← HMN.out.1]; exact hMl)).mono ?_
    rintro e w4 ⟨⟨vm, rfl, hNm⟩, hB⟩
    rw [← HMN.out.1] at hNm
    have HB4 := Lib.hid (HB3.out.trans (hB.mono HB3.out.size))
    have RF4 : Hid (Rd w4 (.slice a1 F.length c1) 1 F.length (nats F)) := RF3.out.below hB (Nat.le_refl _)
    have RG4 : Hid (Rd w4 (.slice a2 G.length c2) 1 G.length (nats G)) := RG3.out.below hB (Nat.le_refl _)
    have RD4 : Hid (Rd w4 (.slice qD D.length kD) 1 D.length (nats D)) := RD3.out.below hB (Nat.le_refl _)
    have RA4 : Hid (Rd w4 (.slice qA A.length kA) 1 A.length (nats A)) := RA3.out.below hB (Nat.le_refl _)
    have RB4 : Hid (Rd w4 (.slice qB B.length kB) 1 B.length (nats B)) := RB3.out.below hB (Nat.le_refl _)
    have RC4 : Hid (Rd w4 (.slice qC D.length kC) 1 D.length (nats D)) := RC3.out.below hB (Nat.le_refl _)
    clear RF3 RG3 RD3 RA3 RB3 RC3
    have RM4 : Hid (Rd w4 vm 1 Mm.length (nats Mm)) := hNm.rd
    obtain ⟨qM, kM, hvM⟩ := hNm.rd.shape
    subst hvM
    clear hNm
    clear hB
    go_wp2_with (fail)
    refine (Mul_ok q B G _ _ _ HP hq RB4 RG4 HPB HPG (by omega) (by omega) (by rw [← HMN.out.2]; exact hNl)).mono ?_
    rintro e w5 ⟨⟨vn, rfl, hNn⟩, hB⟩
    rw [← HMN.out.2] at hNn
    have HB5 := Lib.hid (HB4.out.trans (hB.mono HB4.out.size))
    have RF5 : Hid (Rd w5 (.slice a1 F.length c1) 1 F.length (nats F)) := RF4.out.below hB (Nat.le_refl _)
    have RG5 : Hid (Rd w5 (.slice a2 G.length c2) 1 G.length (nats G)) := RG4.out.below hB (Nat.le_refl _)
    have RD5 : Hid (Rd w5 (.slice qD D.length kD) 1 D.length (nats D)) := RD4.out.below hB (Nat.le_refl _)
    have RA5 : Hid (Rd w5 (.slice qA A.length kA) 1 A.length (nats A)) := RA4.out.below hB (Nat.le_refl _)
    have RB5 : Hid (Rd w5 (.slice qB B.length kB) 1 B.length (nats B)) := RB4.out.below hB (Nat.le_refl _)
    have RC5 : Hid (Rd w5 (.slice qC D.length kC) 1 D.length (nats D)) := RC4.out.below hB (Nat.le_refl _)
    have RM5 : Hid (Rd w5 (.slice qM Mm.length kM) 1 Mm.length (nats Mm)) := RM4.out.below hB (Nat.le_refl _)
    clear RF4 RG4 RD4 RA4 RB4 RC4 RM4
    have RN5 : Hid (Rd w5 vn 1 Nn.length (nats Nn)) := hNn.rd
    obtain ⟨qN, kN, hvN⟩ := hNn.rd.shape
    subst hvN
    clear hNn
    clear hB
    go_wp2_with (fail)
    refine (Add_ok q Mm Nn _ _ _ HP hq RM5 RN5 HPM HPN hMl hNl).mono ?_
    rintro e w6 ⟨⟨vs, rfl, hNs⟩, hB⟩
    rw [HSD.out] at hNs
    have HB6 := Lib.hid (HB5.out.trans (hB.mono HB5.out.size))
    have RF6 : Hid (Rd w6 (.slice a1 F.length c1) 1 F.length (nats F)) := RF5.out.below hB (Nat.le_refl _)
    have RG6 : Hid (Rd w6 (.slice a2 G.length c2) 1 G.length (nats G)) := RG5.out.below hB (Nat.le_refl _)
    have RD6 : Hid (Rd w6 (.slice qD D.length kD) 1 D.length (nats D)) := RD5.out.below hB (Nat.le_refl _)
    have RA6 : Hid (Rd w6 (.slice qA A.length kA) 1 A.length (nats A)) := RA5.out.below hB (Nat.le_refl _)
    have RB6 : Hid (Rd w6 (.slice qB B.length kB) 1 B.length (nats B)) := RB5.out.below hB (Nat.le_refl _)
    have RC6 : Hid (Rd w6 (.slice qC D.length kC) 1 D.length (nats D)) := RC5.out.below hB (Nat.le_refl _)
    have RM6 : Hid (Rd w6 (.slice qM Mm.length kM) 1 Mm.length (nats Mm)) := RM5.out.below hB (Nat.le_refl _)
    have RN6 : Hid (Rd w6 (.slice qN Nn.length kN) 1 Nn.length (nats Nn)) := RN5.out.below hB (Nat.le_refl _)
    clear RF5 RG5 RD5 RA5 RB5 RC5 RM5 RN5
    have RS6 : Hid (Rd w6 vs 1 D.length (nats D)) := hNs.rd
    obtain ⟨qS, kS, hvS⟩ := hNs.rd.shape
    subst hvS
    clear hNs
    clear hB
    go_wp2_with (fail)
    refine (Same_is D D _ _ true _ RC6 RD6 (by omega) (by omega) ⟨fun _ => rfl, fun _ => rfl⟩).mono ?_
    rintro e w7 ⟨rfl, nn, hw⟩
    have hB : Below w6.heap.size w6 w7 := by rw [hw]; exact below_drewN (Below.refl _ _) _
    clear hw
    have HB7 := Lib.hid (HB6.out.trans (hB.mono HB6.out.size))
    have RF7 : Hid (Rd w7 (.slice a1 F.length c1) 1 F.length (nats F)) := RF6.out.below hB (Nat.le_refl _)
    have RG7 : Hid (Rd w7 (.slice a2 G.length c2) 1 G.length (nats G)) := RG6.out.below hB (Nat.le_refl _)
    have RD7 : Hid (Rd w7 (.slice qD D.length kD) 1 D.length (nats D)) := RD6.out.below hB (Nat.le_refl _)
    have RC7 : Hid (Rd w7 (.slice qC D.length kC) 1 D.length (nats D)) := RC6.out.below hB (Nat.le_refl _)
    have RS7 : Hid (Rd w7 (.slice qS D.length kS) 1 D.length (nats D)) := RS6.out.below hB (Nat.le_refl _)
    clear RF6 RG6 RD6 RC6 RS6
    clear hB
    go_wp2_with (fail)
    refine (Same_is D D _ _ true _ RS7 RD7 (by omega) (by omega) ⟨fun _ => rfl, fun _ => rfl⟩).mono ?_
    rintro e w8 ⟨rfl, nn, hw⟩
    have hB : Below w7.heap.size w7 w8 := by rw [hw]; exact below_drewN (Below.refl _ _) _
    clear hw
    have HB8 := Lib.hid (HB7.out.trans (hB.mono HB7.out.size))
    have RF8 : Hid (Rd w8 (.slice a1 F.length c1) 1 F.length (nats F)) := RF7.out.below hB (Nat.le_refl _)
    have RG8 : Hid (Rd w8 (.slice a2 G.length c2) 1 G.length (nats G)) := RG7.out.below hB (Nat.le_refl _)
    have RD8 : Hid (Rd w8 (.slice qD D.length kD) 1 D.length (nats D)) := RD7.out.below hB (Nat.le_refl _)
    have RC8 : Hid (Rd w8 (.slice qC D.length kC) 1 D.length (nats D)) := RC7.out.below hB (Nat.le_refl _)
    have RS8 : Hid (Rd w8 (.slice qS D.length kS) 1 D.length (nats D)) := RS7.out.below hB (Nat.le_refl _)
    clear RF7 RG7 RD7 RC7 RS7
    clear hB
    by_cases h0 : D.length = 0
    · have hz : ((D.length : Int) == 0) = true := by rw [beq_iff_eq]; omega
      have hFG := HGI.out.zero.1 (List.eq_nil_of_length_eq_zero h0)
      have hzF : ((F.length : Int) == 0) = true := by rw [hFG.1]; rfl
      have hzG : ((G.length : Int) == 0) = true := by rw [hFG.2]; rfl
      clear h0 hFG
      go_wp2_with (fail)
      refine (awake_is _).mono ?_
      rintro e w9 ⟨rfl, hB⟩
      have HB9 := Lib.hid (HB8.out.trans (hB.mono HB8.out.size))
      clear hB
      go_wp2_with (fail)
      go_ret
      exact ⟨rfl, HB9.out⟩
    · have hz : ((D.length : Int) == 0) = false := by rw [beq_eq_false_iff_ne]; omega
      have hmon := HGI.out.mon.resolve_left (fun h => by rw [h] at h0; simp at h0)
      have HRF : Hid ((Q.divP q F D).2 = []) := (Q.rem_nil_iff HP.out HPF.out HPD.out h0).2 HGI.out.left
      have HRG : Hid ((Q.divP q G D).2 = []) := (Q.rem_nil_iff HP.out HPG.out HPD.out h0).2 HGI.out.right
      have HMON := Lib.hid hmon.2
      clear hmon
      go_wp2_with (fail)
      refine (Div_ok q F D _ _ _ HP hq RF8 RD8 HPF HPD (by omega) (by omega) h0).mono ?_
      rintro e w9 ⟨⟨vq, vr, rfl, hNq, hNr⟩, hB⟩
      rw [HRF.out] at hNr
      obtain ⟨qq, kq, hvq⟩ := hNq.rd.shape
      subst hvq
      clear hNq
      have HB9 := Lib.hid (HB8.out.trans (hB.mono HB8.out.size))
      have RF9 : Hid (Rd w9 (.slice a1 F.length c1) 1 F.length (nats F)) := RF8.out.below hB (Nat.le_refl _)
      have RG9 : Hid (Rd w9 (.slice a2 G.length c2) 1 G.length (nats G)) := RG8.out.below hB (Nat.le_refl _)
      have RD9 : Hid (Rd w9 (.slice qD D.length kD) 1 D.length (nats D)) := RD8.out.below hB (Nat.le_refl _)
      have RC9 : Hid (Rd w9 (.slice qC D.length kC) 1 D.length (nats D)) := RC8.out.below hB (Nat.le_refl _)
      have RS9 : Hid (Rd w9 (.slice qS D.length kS) 1 D.length (nats D)) := RS8.out.below hB (Nat.le_refl _)
      clear RF8 RG8 RD8 RC8 RS8
      have RX9 : Hid (Rd w9 vr 1 ([] : List Nat).length (nats ([] : List Nat))) := hNr.rd
      obtain ⟨qX, kX, hvX⟩ := hNr.rd.shape
      subst hvX
      clear hNr
      clear hB
      go_wp2_with (fail)
      refine (Div_ok q G D _ _ _ HP hq RG9 RD9 HPG HPD (by omega) (by omega) h0).mono ?_
      rintro e w10 ⟨⟨vq, vr, rfl, hNq, hNr⟩, hB⟩
      rw [HRG.out] at hNr
      obtain ⟨qp, kp, hvp⟩ := hNq.rd.shape
      subst hvp
      clear hNq
      have HB10 := Lib.hid (HB9.out.trans (hB.mono HB9.out.size))
      have RF10 : Hid (Rd w10 (.slice a1 F.length c1) 1 F.length (nats F)) := RF9.out.below hB (Nat.le_refl _)
      have RG10 : Hid (Rd w10 (.slice a2 G.length c2) 1 G.length (nats G)) := RG9.out.below hB (Nat.le_refl _)
      have RD10 : Hid (Rd w10 (.slice qD D.length kD) 1 D.length (nats D)) := RD9.out.below hB (Nat.le_refl _)
      have RC10 : Hid (Rd w10 (.slice qC D.length kC) 1 D.length (nats D)) := RC9.out.below hB (Nat.le_refl _)
      have RS10 : Hid (Rd w10 (.slice qS D.length kS) 1 D.length (nats D)) := RS9.out.below hB (Nat.le_refl _)
      have RX10 : Hid (Rd w10 (.slice qX ([] : List Nat).length kX) 1 ([] : List Nat).length (nats ([] : List Nat))) := RX9.out.below hB (Nat.le_refl _)
      clear RF9 RG9 RD9 RC9 RS9 RX9
      have RY10 : Hid (Rd w10 vr 1 ([] : List Nat).length (nats ([] : List Nat))) := hNr.rd
      obtain ⟨qY, kY, hvY⟩ := hNr.rd.shape
      subst hvY
      clear hNr
      clear hB
      obtain ⟨i, hi⟩ : ∃ i, D.length = i + 1 := ⟨D.length - 1, by omega⟩
      obtain ⟨bd, hbd, hbl, hcd⟩ := Rd.at (by have := RD10.out; exact this) i (show i < D.length by omega)
      subst hbd
      have hc1 : D.getD i 0 = 1 := by have := HMON.out; rw [hi, Nat.add_sub_cancel] at this; exact this
      rw [hc1] at hcd
      have hi1 : (D.length : Int) - 1 = (i : Int) := by omega
      have hi2 : (i : Int) < (D.length : Int) := by omega
      clear hi hc1 h0
      go_wp2_with (fail)
      refine (awake_is _).mono ?_
      rintro e w9 ⟨rfl, hB⟩
      have HB9 := Lib.hid (HB10.out.trans (hB.mono HB10.out.size))
      clear hB
      go_wp2_with (fail)
      go_ret
      exact ⟨rfl, HB9.out⟩


set_option maxRecDepth 100000 in
theorem lifted (os : Os) (started : os.Started) (H : Type) (enc : TypeId × Value → H) :
    ReturnsInHanded {} Try.checked os 12 .any (Rows.polyBezoutSpec.pre6 enc Try.prog Try.f12 Rows.polyBezoutRow.domain false) (Rows.polyBezoutSpec.post enc Try.prog Try.f12 false true false false) := by
  refine returnsInHanded_of_change (C := Try.checked) own started (by kernel_rfl) Try.func12
    (ChangeSpec.witness6 (enc := enc) (C := Try.checked) false ⟨#[], #[.int .i64 0, .agg #[.slice none 0 0, .slice none 0 0]], []⟩ 8 (by kernel_rfl) (by kernel_rfl) (by kernel_rfl) (by kernel_rfl)) ?_
  intro W base args ds gs before hval0 hW hcnd _
  have hval : ∀ (j : Nat) t v, Try.f12.params[j]? = some t → args[j]? = some v → Value.okWide Try.prog W .any base t v := hval0
  have hW' := hW
  obtain ⟨p, q, hA0, hV, rfl, hfz, hnd⟩ := hW
  have hA : DataW.TrodAll enc Try.prog W 0 (fun _ => true) true Try.f12.params.toList args.toList ds p := hA0
  rw [Try.params12] at hA hval
  obtain ⟨v0, vs0, d0, ds0, p0, q0, hargs, rfl, rfl, h0, r0⟩ := trodAll_cons hA
  obtain ⟨v1, vs1, d1, ds1, p1, q1, rfl, rfl, rfl, h1, r1⟩ := trodAll_cons r0
  obtain ⟨rfl, rfl, rfl⟩ := trodAll_nil r1
  obtain rfl : args = #[v0, v1] := by cases args; simp_all
  obtain ⟨rfl, rfl⟩ := trodVars_none hV
  have hlt := hW'.lt
  obtain ⟨a0, rfl, rfl, rfl, w0⟩ := open_int Try.underlying3 (hval 0 3 v0 rfl rfl) h0
  obtain ⟨va1, vb1, Za1, Zb1, rfl, hZa1, hZb1⟩ := argP_of (hval 1 24 v1 rfl rfl) h1
  clear hA0 hval0
  simp only [List.append_nil] at hW'
  refine (walk a0 va1 vb1 Za1 Zb1 W hZa1 hZb1).mono fun e W' ⟨he, hg⟩ => ?_
  subst he
  exact ⟨_, rfl, _, _, _, [], [] ++ (p1 ++ ([])), [], hW', trodAll_cons_mk (shut_bool Try.underlying4 _) trodAll_mk0, trodAll_cons_mk (shut_int Try.underlying3 w0) (trodAll_cons_mk (Below.trod (by kernel_rfl) (by kernel_rfl) (by decide +kernel) h1 hg (fun x hx => hlt x (by simp [hx]))) trodAll_mk0), rfl, hg.frame _, fun h => by cases h⟩

theorem over : Rows.polyBezoutRow.holds Try.pinned (OpenSpec.ofChange Rows.polyBezoutSpec) :=
  OpenClaim.holds_of_wide 12 Try.f12 rfl rfl rfl rfl rfl rfl rfl ⟨rfl, rfl, rfl, rfl, rfl⟩ rfl rfl rfl rfl rfl (by kernel_rfl) Try.func12 (by kernel_rfl)
    (of_decide_eq_true (by kernel_rfl)) (by unfold Func.isWrapper; first | (rw [if_pos (by decide +kernel)]; kernel_rfl) | (rw [if_neg (by decide +kernel)]; exact ⟨rfl, rfl⟩))
    (fun os started H enc _ => lifted os started H enc)

theorem proved : Rows.PolyBezoutSaid := over

end Go.Proofs.Ytgnpohapmijfiaa.polyBezout
