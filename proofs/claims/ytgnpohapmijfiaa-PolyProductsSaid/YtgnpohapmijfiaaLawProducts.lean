/- The last coefficient and the powers of the factors multiply to the polynomial, and the factorization of a product combines the factorizations of both factors. No condition. -/
import Derived.Test.YtgnpohapmijfiaaG15
import Derived.Test.YtgnpohapmijfiaaG13
import Derived.Deep.RegionHeld3
import Derived.ProofKit
import Derived.OpenShut
namespace Go.Proofs.Ytgnpohapmijfiaa.polyProducts
open Go.ChangeShapes Go.WideShapes Go.ChangeAt Go.RowKit

theorem own : ownKnob Try.prog.godebug = none := by kernel_rfl


theorem still_draw {P : Program} {f : FuncId} {args : Array Value} {v : Value} {w0 : World} (a n : Nat) (c : Calls P f args (w0.drewN (a + n)) fun e w' => e = .returned v ∧ ∃ m, w' = (w0.drewN (a + n)).drewN m) :
    Calls P f args (w0.drewN (a + n)) fun e w' => e = .returned v ∧ ∃ m, w' = w0.drewN (a + m) :=
  c.mono fun _ _ ⟨he, m, hm⟩ => ⟨he, n + m, by rw [hm, World.drewN_drewN, Nat.add_assoc]⟩

theorem exp_bd {p : Nat} (hP : M.Pr p) {F : List Nat} (hF : Q.Pol p F) (h0 : F.length ≠ 0) {L : List (List Nat × Nat)} {l : List (List Nat)} (h : Q.FacL p F L l) (g : List Nat) : Q.expE L g ≤ F.length := by
  by_cases hg : ∃ x ∈ L, x.1 = g
  · obtain ⟨x, hx, rfl⟩ := hg
    rw [Q.expE_mem h.ok.nodup hx]
    obtain ⟨i, hi, rfl⟩ := List.getElem_of_mem hx
    exact (h.small hP hF h0 i hi).1
  · rw [Q.expE_not fun x hx e => hg ⟨x, hx, e⟩]; omega

theorem exp_next (L : List FacE) (g : List Nat) (k : Nat) (h : k < L.length) : Q.expE ((strip L).take (k + 1)) g = Q.expE ((strip L).take k) g + if L[k].2.1 = g then L[k].2.2 else 0 := by
  have h1 := Q.expE_take (strip L) g k (by rw [strip_len]; exact h)
  rw [strip_get L k h] at h1
  exact h1

set_option maxRecDepth 100000 in
set_option maxHeartbeats 4000000 in
theorem walk (p : Int) (va vb : Value) (Za Zb : List Int) (w : World) (hva : Hid (ArgI w va Za)) (hvb : Hid (ArgI w vb Zb)) :
    Calls Try.prog 13 #[.int .i64 p, .agg #[va, vb]] w fun e w' => e = .returned (.bool true) ∧ Below w.heap.size w w' := by
  obtain ⟨xa, na, ca, hsa⟩ := hva.out.form
  obtain ⟨xb, nb, cb, hsb⟩ := hvb.out.form
  subst hsa hsb
  obtain ⟨X, hX⟩ : ∃ X, X = w.alloc (.cells #[.slice xa na ca, .slice xb nb cb] 24) := ⟨_, rfl⟩
  have HA : Hid (Below w.heap.size w X) := by rw [hX]; exact (Below.refl _ _).alloc (Nat.le_refl _) _
  have hXz : w.heap.size < X.heap.size := by rw [hX]; simp
  have hca : X.cell? ⟨w.heap.size, 0, none⟩ = some (.slice xa na ca) := by rw [hX]; simp
  have hcb : X.cell? ⟨w.heap.size, 1, none⟩ = some (.slice xb nb cb) := by rw [hX]; simp
  have HXS : Hid (∀ W, Below X.heap.size X W → W.cell? ⟨w.heap.size, 0, none⟩ = some (.slice xa na ca) ∧ W.cell? ⟨w.heap.size, 1, none⟩ = some (.slice xb nb cb)) := fun W h =>
    ⟨by rw [h.cell (p := ⟨w.heap.size, 0, none⟩) hXz]; exact hca, by rw [h.cell (p := ⟨w.heap.size, 1, none⟩) hXz]; exact hcb⟩
  have HVa : Hid (∀ W, Below X.heap.size X W → ArgI W (.slice xa na ca) Za) := fun W h => (hva.out.below HA.out).below h
  have HVb : Hid (∀ W, Below X.heap.size X W → ArgI W (.slice xb nb cb) Zb) := fun W h => (hvb.out.below HA.out).below h
  have HXD : Hid (Below X.heap.size X X.drew) := (Below.refl _ _).drew
  clear hva hvb
  go_enter Try.func13, Try.ntmps13
  go_wp2_with (fail)
  rw [← hX]
  have HX := Lib.hid hX
  clear hX
  refine (field_is p X).mono ?_
  rintro e wz ⟨⟨q, rfl, hP0, hq⟩, hw⟩
  subst hw
  have HP := Lib.hid hP0
  have hp2 : 2 ≤ q := hP0.1
  clear hP0
  go_upto_region 2 with fail
  go_cut [5, 6] (fun f g wx => ∃ (vf vg : Value) (W5 : World), f = vf ∧ g = vg ∧ W5 = wx ∧ Hid (NewL w wx vf (Q.trim (Q.tameL q 12 Za))) ∧ Hid (NewL w wx vg (Q.trim (Q.tameL q 12 Zb))) ∧ Hid (Below w.heap.size w wx))
  case first =>
    go_region_held3 (fun w' => w'.cell? ⟨w.heap.size, 0, none⟩ = some (.slice xa na ca) ∧ w'.cell? ⟨w.heap.size, 1, none⟩ = some (.slice xb nb cb)) (first | exact ⟨k1, k2⟩ | exact HXS.out _ HXD.out)
      ((go_at_call 41; refine (tame_is q 12 _ _ _ hp2 hq (by omega) (by first | exact HVa.out _ (by first | exact HXD.out | exact HKB.out) | exact HVb.out _ (by first | exact HXD.out | exact HKA.out))).mono ?_; rintro e wN ⟨⟨vN, rfl, hN⟩, hB⟩; have hK : Below X.heap.size X wN := own_step (by first | exact HXD.out | exact HKA.out | exact HKB.out) hB; have k1 := (HXS.out _ hK).1; have k2 := (HXS.out _ hK).2; first | (have HNA : Hid (NewL _ wN vN (Q.trim (Q.tameL q 12 Za))) := hN; have HKA := Lib.hid hK; have HBA := Lib.hid hB) | (have HNB : Hid (NewL _ wN vN (Q.trim (Q.tameL q 12 Zb))) := hN; have HKB := Lib.hid hK; have HBB := Lib.hid hB); clear hN hB hK))
    all_goals
      go_wp2_with (fail)
      go_meet
      first
        | (have h := tame_two HA.out HXD.out HNA.out HBA.out HNB.out HBB.out; exact ⟨_, _, _, rfl, rfl, rfl, h.1, h.2.1, h.2.2⟩)
        | (have h := tame_two HA.out HXD.out HNB.out HBB.out HNA.out HBA.out; exact ⟨_, _, _, rfl, rfl, rfl, h.2.1, h.1, h.2.2⟩)
  case rest =>
    obtain ⟨f, g, w1, rfl, rfl, rfl, HNa, HNb, HB1⟩ := hcut
    obtain ⟨F, hF⟩ : ∃ F, F = Q.trim (Q.tameL q 12 Za) := ⟨_, rfl⟩
    obtain ⟨G, hG⟩ : ∃ G, G = Q.trim (Q.tameL q 12 Zb) := ⟨_, rfl⟩
    have HPF : Hid (Q.Pol q F) := by rw [hF]; exact (Q.tameL_red (by omega) _ _).trim
    have HPG : Hid (Q.Pol q G) := by rw [hG]; exact (Q.tameL_red (by omega) _ _).trim
    have hFl : F.length ≤ 12 := by rw [hF]; exact Q.tame_len q 12 Za
    have hGl : G.length ≤ 12 := by rw [hG]; exact Q.tame_len q 12 Zb
    rw [← hF] at HNa
    rw [← hG] at HNb
    have HRF1 := Lib.hid HNa.out.rd
    have HRG1 := Lib.hid HNb.out.rd
    obtain ⟨a1, c1, hv1⟩ := HNa.out.rd.shape
    obtain ⟨a2, c2, hv2⟩ := HNb.out.rd.shape
    subst hv1 hv2
    clear hca hcb hXz HXS HVa HVb HXD HA HX hF hG
    have RF1 : Hid (Rd w1 (.slice a1 F.length c1) 1 F.length (nats F)) := HRF1.out
    have RG1 : Hid (Rd w1 (.slice a2 G.length c2) 1 G.length (nats G)) := HRG1.out
    clear HRF1 HRG1 HNa HNb
    by_cases hF0 : F.length = 0
    · have hzf : ((F.length : Int) == 0) = true := by rw [hF0]; rfl
      clear hF0
      go_wp2_with (fail)
      refine (awake_is _).mono ?_
      rintro e w9 ⟨rfl, hB⟩
      have HB9 := Lib.hid (HB1.out.trans (hB.mono HB1.out.size))
      clear hB
      go_wp2_with (fail)
      go_ret
      exact ⟨rfl, HB9.out⟩
    · by_cases hG0 : G.length = 0
      · have hzf : ((F.length : Int) == 0) = false := by rw [beq_eq_false_iff_ne]; omega
        have hzg : ((G.length : Int) == 0) = true := by rw [hG0]; rfl
        clear hG0
        go_wp2_with (fail)
        refine (awake_is _).mono ?_
        rintro e w9 ⟨rfl, hB⟩
        have HB9 := Lib.hid (HB1.out.trans (hB.mono HB1.out.size))
        clear hB
        go_wp2_with (fail)
        go_ret
        exact ⟨rfl, HB9.out⟩
      · have hzf : ((F.length : Int) == 0) = false := by rw [beq_eq_false_iff_ne]; omega
        have hzg : ((G.length : Int) == 0) = false := by rw [beq_eq_false_iff_ne]; omega
        obtain ⟨M, hM⟩ : ∃ M, M = Q.prodP' q F G := ⟨_, rfl⟩
        have HPM : Hid (Q.Pol q M) := by rw [hM]; exact Q.pol_prod HP.out HPF.out HPG.out
        have hMl : M.length ≤ 23 := by rw [hM, Q.prod_length (by omega) (by omega)]; omega
        have hM0 : M.length ≠ 0 := by rw [hM, Q.prod_length (by omega) (by omega)]; omega
        obtain ⟨ca, hca⟩ : ∃ ca, ca = F.getD (F.length - 1) 0 := ⟨_, rfl⟩
        obtain ⟨cb, hcb⟩ : ∃ cb, cb = G.getD (G.length - 1) 0 := ⟨_, rfl⟩
        obtain ⟨cc, hcc⟩ : ∃ cc, cc = M.getD (M.length - 1) 0 := ⟨_, rfl⟩
        have haq : ca < q := by rw [hca]; exact HPF.out.red.getD (by omega) _
        have hbq : cb < q := by rw [hcb]; exact HPG.out.red.getD (by omega) _
        have hcM : cc = ca * cb % q := by rw [hcc, hca, hcb, hM]; exact Q.prod_lastC (by omega) (by omega)
        have hab : ca * cb ≤ 1021 * 1021 := Nat.mul_le_mul (by omega) (by omega)
        have hab2 : (0 : Int) ≤ (ca : Int) * (cb : Int) ∧ (ca : Int) * (cb : Int) ≤ 1042441 := by
          have h : (ca : Int) * (cb : Int) = ((ca * cb : Nat) : Int) := by simp
          omega
        have hce : (((ca : Int) * (cb : Int)) % (q : Int) == (cc : Int)) = true := by rw [beq_iff_eq, hcM]; rfl
        have hce2 : (((ca : Int) * (cb : Int)) % (q : Int) != (cc : Int)) = false := by rw [bne, hce]; rfl
        have hzq : ((q : Int) == 0) = false := by simp; omega
        have HM := Lib.hid hM
        have HCA := Lib.hid hca
        have HCB := Lib.hid hcb
        have HCC := Lib.hid hcc
        clear hM hca hcb hcc hcM hab
        go_wp2_with (fail)
        refine (Mul_ok q F G _ _ _ HP hq RF1 RG1 HPF HPG (by omega) (by omega) (by rw [← HM.out]; omega)).mono ?_
        rintro e w2 ⟨⟨vm, rfl, hN⟩, hB⟩
        rw [← HM.out] at hN
        have HB2 := Lib.hid (HB1.out.trans (hB.mono HB1.out.size))
        have RF2 : Hid (Rd w2 (.slice a1 F.length c1) 1 F.length (nats F)) := RF1.out.below hB (Nat.le_refl _)
        have RG2 : Hid (Rd w2 (.slice a2 G.length c2) 1 G.length (nats G)) := RG1.out.below hB (Nat.le_refl _)
        clear RF1 RG1
        have RM2 : Hid (Rd w2 vm 1 M.length (nats M)) := hN.rd
        obtain ⟨qM, kM, hvM⟩ := hN.rd.shape
        subst hvM
        clear hN
        clear hB
        go_wp2_with (fail)
        refine (Factor_ok q F _ _ HP hq RF2 HPF (by omega) (by omega)).mono ?_
        rintro e w3 ⟨v1, L1, fin, rfl, hF1, hfin, hperm, hs⟩
        rw [← HCA.out]
        have hB := hF1.below
        obtain ⟨l1, hl1⟩ := Q.facL_of HP.out HPF.out (by omega) (by omega) hfin hperm hs
        have HL1 := Lib.hid hl1
        have hr1 := RdFac.of hF1
        obtain ⟨b1, d1, hv1, hd1⟩ := hr1.shape
        subst hv1
        have FL13 : Hid (RdFac w3 (.slice b1 L1.length d1) L1) := hr1
        have hLl1 : L1.length ≤ 33 := by have := hl1.len HP.out HPF.out (by omega); rw [strip_len] at this; omega
        clear hF1 hfin hperm hs hl1 hr1
        have HB3 := Lib.hid (HB2.out.trans (hB.mono HB2.out.size))
        have RF3 : Hid (Rd w3 (.slice a1 F.length c1) 1 F.length (nats F)) := RF2.out.below hB (Nat.le_refl _)
        have RG3 : Hid (Rd w3 (.slice a2 G.length c2) 1 G.length (nats G)) := RG2.out.below hB (Nat.le_refl _)
        have RM3 : Hid (Rd w3 (.slice qM M.length kM) 1 M.length (nats M)) := RM2.out.below hB (Nat.le_refl _)
        clear RF2 RG2 RM2
        clear hB
        go_wp2_with (fail)
        refine (Factor_ok q G _ _ HP hq RG3 HPG (by omega) (by omega)).mono ?_
        rintro e w4 ⟨v2, L2, fin, rfl, hF2, hfin, hperm, hs⟩
        rw [← HCB.out]
        have hB := hF2.below
        obtain ⟨l2, hl2⟩ := Q.facL_of HP.out HPG.out (by omega) (by omega) hfin hperm hs
        have HL2 := Lib.hid hl2
        have hr2 := RdFac.of hF2
        obtain ⟨b2, d2, hv2, hd2⟩ := hr2.shape
        subst hv2
        have FL24 : Hid (RdFac w4 (.slice b2 L2.length d2) L2) := hr2
        have hLl2 : L2.length ≤ 33 := by have := hl2.len HP.out HPG.out (by omega); rw [strip_len] at this; omega
        clear hF2 hfin hperm hs hl2 hr2
        have HB4 := Lib.hid (HB3.out.trans (hB.mono HB3.out.size))
        have RF4 : Hid (Rd w4 (.slice a1 F.length c1) 1 F.length (nats F)) := RF3.out.below hB (Nat.le_refl _)
        have RG4 : Hid (Rd w4 (.slice a2 G.length c2) 1 G.length (nats G)) := RG3.out.below hB (Nat.le_refl _)
        have RM4 : Hid (Rd w4 (.slice qM M.length kM) 1 M.length (nats M)) := RM3.out.below hB (Nat.le_refl _)
        clear RF3 RG3 RM3
        have FL14 : Hid (RdFac w4 (.slice b1 L1.length d1) L1) := FL13.out.below hB
        clear FL13
        clear hB
        go_wp2_with (fail)
        refine (Factor_ok q M _ _ HP hq RM4 HPM (by omega) (by omega)).mono ?_
        rintro e w5 ⟨v3, L3, fin, rfl, hF3, hfin, hperm, hs⟩
        rw [← HCC.out]
        have hB := hF3.below
        obtain ⟨l3, hl3⟩ := Q.facL_of HP.out HPM.out (by omega) (by omega) hfin hperm hs
        have HL3 := Lib.hid hl3
        have hr3 := RdFac.of hF3
        obtain ⟨b3, d3, hv3, hd3⟩ := hr3.shape
        subst hv3
        have FL35 : Hid (RdFac w5 (.slice b3 L3.length d3) L3) := hr3
        have hLl3 : L3.length ≤ 33 := by have := hl3.len HP.out HPM.out (by omega); rw [strip_len] at this; omega
        clear hF3 hfin hperm hs hl3 hr3
        have HB5 := Lib.hid (HB4.out.trans (hB.mono HB4.out.size))
        have RF5 : Hid (Rd w5 (.slice a1 F.length c1) 1 F.length (nats F)) := RF4.out.below hB (Nat.le_refl _)
        have RG5 : Hid (Rd w5 (.slice a2 G.length c2) 1 G.length (nats G)) := RG4.out.below hB (Nat.le_refl _)
        have RM5 : Hid (Rd w5 (.slice qM M.length kM) 1 M.length (nats M)) := RM4.out.below hB (Nat.le_refl _)
        clear RF4 RG4 RM4
        have FL15 : Hid (RdFac w5 (.slice b1 L1.length d1) L1) := FL14.out.below hB
        have FL25 : Hid (RdFac w5 (.slice b2 L2.length d2) L2) := FL24.out.below hB
        clear FL14 FL24
        clear hB
        go_wp2_with (fail)
        refine (lproduct_is q ca F L1 l1 _ _ HP hq FL15 HPF (by omega) (by omega) HL1 HCA).mono ?_
        rintro e w6 ⟨⟨vp, rfl, hN⟩, hB⟩
        have HB6 := Lib.hid (HB5.out.trans (hB.mono HB5.out.size))
        have RF6 : Hid (Rd w6 (.slice a1 F.length c1) 1 F.length (nats F)) := RF5.out.below hB (Nat.le_refl _)
        have RG6 : Hid (Rd w6 (.slice a2 G.length c2) 1 G.length (nats G)) := RG5.out.below hB (Nat.le_refl _)
        have RM6 : Hid (Rd w6 (.slice qM M.length kM) 1 M.length (nats M)) := RM5.out.below hB (Nat.le_refl _)
        clear RF5 RG5 RM5
        have RP16 : Hid (Rd w6 vp 1 F.length (nats F)) := hN.rd
        obtain ⟨qP1, kP1, hvP1⟩ := hN.rd.shape
        subst hvP1
        clear hN
        have FL16 : Hid (RdFac w6 (.slice b1 L1.length d1) L1) := FL15.out.below hB
        have FL26 : Hid (RdFac w6 (.slice b2 L2.length d2) L2) := FL25.out.below hB
        have FL36 : Hid (RdFac w6 (.slice b3 L3.length d3) L3) := FL35.out.below hB
        clear FL15 FL25 FL35
        clear hB
        go_wp2_with (fail)
        refine (lproduct_is q cb G L2 l2 _ _ HP hq FL26 HPG (by omega) (by omega) HL2 HCB).mono ?_
        rintro e w7 ⟨⟨vp, rfl, hN⟩, hB⟩
        have HB7 := Lib.hid (HB6.out.trans (hB.mono HB6.out.size))
        have RF7 : Hid (Rd w7 (.slice a1 F.length c1) 1 F.length (nats F)) := RF6.out.below hB (Nat.le_refl _)
        have RG7 : Hid (Rd w7 (.slice a2 G.length c2) 1 G.length (nats G)) := RG6.out.below hB (Nat.le_refl _)
        have RM7 : Hid (Rd w7 (.slice qM M.length kM) 1 M.length (nats M)) := RM6.out.below hB (Nat.le_refl _)
        have RP17 : Hid (Rd w7 (.slice qP1 F.length kP1) 1 F.length (nats F)) := RP16.out.below hB (Nat.le_refl _)
        clear RF6 RG6 RM6 RP16
        have RP27 : Hid (Rd w7 vp 1 G.length (nats G)) := hN.rd
        obtain ⟨qP2, kP2, hvP2⟩ := hN.rd.shape
        subst hvP2
        clear hN
        have FL17 : Hid (RdFac w7 (.slice b1 L1.length d1) L1) := FL16.out.below hB
        have FL27 : Hid (RdFac w7 (.slice b2 L2.length d2) L2) := FL26.out.below hB
        have FL37 : Hid (RdFac w7 (.slice b3 L3.length d3) L3) := FL36.out.below hB
        clear FL16 FL26 FL36
        clear hB
        go_wp2_with (fail)
        refine (lproduct_is q cc M L3 l3 _ _ HP hq FL37 HPM (by omega) (by omega) HL3 HCC).mono ?_
        rintro e w8 ⟨⟨vp, rfl, hN⟩, hB⟩
        have HB8 := Lib.hid (HB7.out.trans (hB.mono HB7.out.size))
        have RF8 : Hid (Rd w8 (.slice a1 F.length c1) 1 F.length (nats F)) := RF7.out.below hB (Nat.le_refl _)
        have RG8 : Hid (Rd w8 (.slice a2 G.length c2) 1 G.length (nats G)) := RG7.out.below hB (Nat.le_refl _)
        have RM8 : Hid (Rd w8 (.slice qM M.length kM) 1 M.length (nats M)) := RM7.out.below hB (Nat.le_refl _)
        have RP18 : Hid (Rd w8 (.slice qP1 F.length kP1) 1 F.length (nats F)) := RP17.out.below hB (Nat.le_refl _)
        have RP28 : Hid (Rd w8 (.slice qP2 G.length kP2) 1 G.length (nats G)) := RP27.out.below hB (Nat.le_refl _)
        clear RF7 RG7 RM7 RP17 RP27
        have RP38 : Hid (Rd w8 vp 1 M.length (nats M)) := hN.rd
        obtain ⟨qP3, kP3, hvP3⟩ := hN.rd.shape
        subst hvP3
        clear hN
        have FL18 : Hid (RdFac w8 (.slice b1 L1.length d1) L1) := FL17.out.below hB
        have FL28 : Hid (RdFac w8 (.slice b2 L2.length d2) L2) := FL27.out.below hB
        have FL38 : Hid (RdFac w8 (.slice b3 L3.length d3) L3) := FL37.out.below hB
        clear FL17 FL27 FL37
        clear hB
        go_wp2_with (fail)
        refine (Same_is F F _ _ true _ RP18 RF8 (by omega) (by omega) ⟨fun _ => rfl, fun _ => rfl⟩).mono ?_
        rintro e w9 ⟨rfl, nn, hw⟩
        have hB : Below w8.heap.size w8 w9 := by rw [hw]; exact below_drewN (Below.refl _ _) _
        clear hw
        have HB9 := Lib.hid (HB8.out.trans (hB.mono HB8.out.size))
        have RF9 : Hid (Rd w9 (.slice a1 F.length c1) 1 F.length (nats F)) := RF8.out.below hB (Nat.le_refl _)
        have RG9 : Hid (Rd w9 (.slice a2 G.length c2) 1 G.length (nats G)) := RG8.out.below hB (Nat.le_refl _)
        have RM9 : Hid (Rd w9 (.slice qM M.length kM) 1 M.length (nats M)) := RM8.out.below hB (Nat.le_refl _)
        have RP19 : Hid (Rd w9 (.slice qP1 F.length kP1) 1 F.length (nats F)) := RP18.out.below hB (Nat.le_refl _)
        have RP29 : Hid (Rd w9 (.slice qP2 G.length kP2) 1 G.length (nats G)) := RP28.out.below hB (Nat.le_refl _)
        have RP39 : Hid (Rd w9 (.slice qP3 M.length kP3) 1 M.length (nats M)) := RP38.out.below hB (Nat.le_refl _)
        clear RF8 RG8 RM8 RP18 RP28 RP38
        have FL19 : Hid (RdFac w9 (.slice b1 L1.length d1) L1) := FL18.out.below hB
        have FL29 : Hid (RdFac w9 (.slice b2 L2.length d2) L2) := FL28.out.below hB
        have FL39 : Hid (RdFac w9 (.slice b3 L3.length d3) L3) := FL38.out.below hB
        clear FL18 FL28 FL38
        clear hB
        go_wp2_with (fail)
        refine (Same_is G G _ _ true _ RP29 RG9 (by omega) (by omega) ⟨fun _ => rfl, fun _ => rfl⟩).mono ?_
        rintro e w10 ⟨rfl, nn, hw⟩
        have hB : Below w9.heap.size w9 w10 := by rw [hw]; exact below_drewN (Below.refl _ _) _
        clear hw
        have HB10 := Lib.hid (HB9.out.trans (hB.mono HB9.out.size))
        have RF10 : Hid (Rd w10 (.slice a1 F.length c1) 1 F.length (nats F)) := RF9.out.below hB (Nat.le_refl _)
        have RG10 : Hid (Rd w10 (.slice a2 G.length c2) 1 G.length (nats G)) := RG9.out.below hB (Nat.le_refl _)
        have RM10 : Hid (Rd w10 (.slice qM M.length kM) 1 M.length (nats M)) := RM9.out.below hB (Nat.le_refl _)
        have RP210 : Hid (Rd w10 (.slice qP2 G.length kP2) 1 G.length (nats G)) := RP29.out.below hB (Nat.le_refl _)
        have RP310 : Hid (Rd w10 (.slice qP3 M.length kP3) 1 M.length (nats M)) := RP39.out.below hB (Nat.le_refl _)
        clear RF9 RG9 RM9 RP29 RP39
        have FL110 : Hid (RdFac w10 (.slice b1 L1.length d1) L1) := FL19.out.below hB
        have FL210 : Hid (RdFac w10 (.slice b2 L2.length d2) L2) := FL29.out.below hB
        have FL310 : Hid (RdFac w10 (.slice b3 L3.length d3) L3) := FL39.out.below hB
        clear FL19 FL29 FL39
        clear hB
        go_wp2_with (fail)
        refine (Same_is M M _ _ true _ RP310 RM10 (by omega) (by omega) ⟨fun _ => rfl, fun _ => rfl⟩).mono ?_
        rintro e w11 ⟨rfl, nn, hw⟩
        have hB : Below w10.heap.size w10 w11 := by rw [hw]; exact below_drewN (Below.refl _ _) _
        clear hw
        have HB11 := Lib.hid (HB10.out.trans (hB.mono HB10.out.size))
        have RF11 : Hid (Rd w11 (.slice a1 F.length c1) 1 F.length (nats F)) := RF10.out.below hB (Nat.le_refl _)
        have RG11 : Hid (Rd w11 (.slice a2 G.length c2) 1 G.length (nats G)) := RG10.out.below hB (Nat.le_refl _)
        have RM11 : Hid (Rd w11 (.slice qM M.length kM) 1 M.length (nats M)) := RM10.out.below hB (Nat.le_refl _)
        have RP311 : Hid (Rd w11 (.slice qP3 M.length kP3) 1 M.length (nats M)) := RP310.out.below hB (Nat.le_refl _)
        clear RF10 RG10 RM10 RP310
        have FL111 : Hid (RdFac w11 (.slice b1 L1.length d1) L1) := FL110.out.below hB
        have FL211 : Hid (RdFac w11 (.slice b2 L2.length d2) L2) := FL210.out.below hB
        have FL311 : Hid (RdFac w11 (.slice b3 L3.length d3) L3) := FL310.out.below hB
        clear FL110 FL210 FL310
        clear hB
        go_wp2_with (fail)
        go_loopw [24] (fun iv wr => ∃ (i m : Nat), iv = .int .i64 i ∧ i ≤ L3.length ∧ wr = w11.drewN m) (fun iv _ => L3.length - (intOf iv).toNat)
        case atStart => exact ⟨0, 0, rfl, by omega, rfl⟩
        case round =>
          obtain ⟨i, m, rfl, hi, rfl⟩ := hrel
          by_cases hlt : i < L3.length
          · obtain ⟨b, x, cx3, hf3⟩ := FL311.out.at i hlt
            obtain rfl := hf3.eq
            have t0 := hf3.c0
            have t1 := hf3.c1
            have hsm3 := HL3.out.small HP.out HPM.out (by omega) i (by rw [strip_len]; exact hlt)
            have hself := Q.expE_mem HL3.out.ok.nodup (List.getElem_mem (show i < (strip L3).length by rw [strip_len]; exact hlt))
            rw [strip_get L3 i hlt] at hsm3 hself
            obtain ⟨g, hg⟩ : ∃ g, g = L3[i].2.1 := ⟨_, rfl⟩
            obtain ⟨e3, he⟩ : ∃ e3, e3 = L3[i].2.2 := ⟨_, rfl⟩
            have HRG : Hid (∀ j, Rd (w11.drewN j) (.slice x g.length cx3) 1 g.length (nats g)) := fun j => by rw [hg]; exact hf3.rd.below (below_drewN (Below.refl _ _) j) (Nat.le_refl _)
            rw [← hg] at t0 hsm3 hself
            rw [← he] at t1 hsm3 hself
            have HSUM : Hid (e3 = Q.expE (strip L1) g + Q.expE (strip L2) g) := by
              have h3 := HL3.out
              rw [HM.out] at h3
              have := Q.exp_sum HP.out HPF.out HPG.out (by omega) (by omega) HL1.out HL2.out h3 g
              rw [hself] at this; exact this
            have HE1 : Hid (Q.expE (strip L1) g ≤ 12) := Nat.le_trans (exp_bd HP.out HPF.out (by omega) HL1.out g) hFl
            have HE2 : Hid (Q.expE (strip L2) g ≤ 12) := Nat.le_trans (exp_bd HP.out HPG.out (by omega) HL2.out g) hGl
            have hgl3 : g.length ≤ 33 := by omega
            have hel3 : e3 ≤ 33 := by omega
            have HGE := Lib.hid (And.intro hg he)
            clear hf3 hself hg he hsm3
            go_wp2_with (fail)
            go_loopw [25, 26] (fun ex kv wr => ∃ (k E m : Nat), kv = .int .i64 k ∧ ex = .int .i64 E ∧ k ≤ L1.length ∧ E ≤ 100 ∧ wr = w11.drewN m ∧ Hid (E = Q.expE ((strip L1).take k) g)) (fun _ kv _ => L1.length - (intOf kv).toNat)
            case atStart => exact ⟨0, 0, m, rfl, rfl, by omega, by omega, rfl, rfl⟩
            case round =>
              obtain ⟨k, E, m, rfl, rfl, hk, hE, rfl, HX⟩ := hrel
              by_cases hkl : k < L1.length
              · obtain ⟨bb, xx, cx, hf⟩ := FL111.out.at k hkl
                obtain rfl := hf.eq
                have d0 := hf.c0
                have d1 := hf.c1
                have hnew := exp_next L1 g k hkl
                have hle := Nat.le_trans (Q.expE_le (L := strip L1) g (k + 1)) HE1.out
                have hsm := (HL1.out.small HP.out HPF.out (by omega) k (by rw [strip_len]; exact hkl)).2
                rw [strip_get L1 k hkl] at hsm
                obtain ⟨fj, hfj⟩ : ∃ fj, fj = L1[k].2.1 := ⟨_, rfl⟩
                obtain ⟨e1, he1⟩ : ∃ e1, e1 = L1[k].2.2 := ⟨_, rfl⟩
                have HRJ : Hid (∀ j, Rd (w11.drewN j) (.slice xx fj.length cx) 1 fj.length (nats fj)) := fun j => by rw [hfj]; exact hf.rd.below (below_drewN (Below.refl _ _) j) (Nat.le_refl _)
                rw [← hfj] at d0 hnew hsm
                rw [← he1] at d1 hnew
                rw [hnew] at hle
                have HNEW := Lib.hid hnew
                have HXE := HX.out
                have hfl : fj.length ≤ 33 := by omega
                clear hnew hfj he1 hf hsm
                by_cases hqp : fj = g
                · have HQ := Lib.hid hqp
                  rw [if_pos hqp] at hle
                  have hE2 : E + e1 ≤ 100 := by omega
                  have HX2 : Hid (E + e1 = Q.expE ((strip L1).take (k + 1)) g) := by
                    show _ = _
                    rw [HNEW.out, if_pos HQ.out]; omega
                  have HT : Hid (fj = g ↔ (true : Bool) = true) ∨ True := .inr trivial
                  clear hqp HXE HX hle HT
                  go_wp2_with (fail)
                  go_quiet ((go_at_call 25; exact still_draw _ _ (Same_is fj g _ _ true _ (HRJ.out _) (HRG.out _) (by omega) (by omega) ⟨fun _ => rfl, fun _ => HQ.out⟩)))
                  go_wp2_with (fail)
                  go_roundw
                  case rel => exact ⟨k + 1, E + e1, _, by go_num, by go_num, by omega, hE2, rfl, HX2⟩
                  case measure => simp [intOf]; omega
                · have HQ := Lib.hid hqp
                  have HX2 : Hid (E = Q.expE ((strip L1).take (k + 1)) g) := by
                    show _ = _
                    rw [HNEW.out, if_neg HQ.out]; omega
                  clear hqp HXE HX hle
                  go_wp2_with (fail)
                  go_quiet ((go_at_call 25; exact still_draw _ _ (Same_is fj g _ _ false _ (HRJ.out _) (HRG.out _) (by omega) (by omega) ⟨fun h => absurd h HQ.out, fun h => by cases h⟩)))
                  go_wp2_with (fail)
                  go_roundw
                  case rel => exact ⟨k + 1, E, _, by go_num, rfl, by omega, hE, rfl, HX2⟩
                  case measure => simp [intOf]; omega
              · obtain rfl : k = L1.length := by omega
                have HX1 : Hid (E = Q.expE (strip L1) g) := by have := HX.out; rw [List.take_of_length_le (by rw [strip_len]; omega)] at this; exact this
                have hE1 : E ≤ 12 := by have h1 := HX1.out; have h2 := HE1.out; omega
                clear HX
                go_wp2_with (fail)
                obtain ⟨E1, hEE⟩ : ∃ E1, E1 = E := ⟨_, rfl⟩
                obtain rfl := hEE
                obtain ⟨m1, hm1⟩ : ∃ m1, m1 = m := ⟨_, rfl⟩
                obtain rfl := hm1
                have HS2 : Hid (E1 = E1 + Q.expE ((strip L2).take 0) g) := by show _ = _; rw [List.take_zero]; rfl

                go_loopw [25, 27] (fun ex kv wr => ∃ (k E m : Nat), kv = .int .i64 k ∧ ex = .int .i64 E ∧ k ≤ L2.length ∧ E ≤ 100 ∧ wr = w11.drewN m ∧ Hid (E = E1 + Q.expE ((strip L2).take k) g)) (fun _ kv _ => L2.length - (intOf kv).toNat)
                case atStart => exact ⟨0, E1, m1, rfl, rfl, by omega, by omega, rfl, HS2⟩
                case round =>
                  obtain ⟨k, E, m, rfl, rfl, hk, hE, rfl, HX⟩ := hrel
                  by_cases hkl : k < L2.length
                  · obtain ⟨bb, xx, cx, hf⟩ := FL211.out.at k hkl
                    obtain rfl := hf.eq
                    have d0 := hf.c0
                    have d1 := hf.c1
                    have hnew := exp_next L2 g k hkl
                    have hle := Nat.le_trans (Q.expE_le (L := strip L2) g (k + 1)) HE2.out
                    have hsm := (HL2.out.small HP.out HPG.out (by omega) k (by rw [strip_len]; exact hkl)).2
                    rw [strip_get L2 k hkl] at hsm
                    obtain ⟨fj, hfj⟩ : ∃ fj, fj = L2[k].2.1 := ⟨_, rfl⟩
                    obtain ⟨e1, he1⟩ : ∃ e1, e1 = L2[k].2.2 := ⟨_, rfl⟩
                    have HRJ : Hid (∀ j, Rd (w11.drewN j) (.slice xx fj.length cx) 1 fj.length (nats fj)) := fun j => by rw [hfj]; exact hf.rd.below (below_drewN (Below.refl _ _) j) (Nat.le_refl _)
                    rw [← hfj] at d0 hnew hsm
                    rw [← he1] at d1 hnew
                    rw [hnew] at hle
                    have HNEW := Lib.hid hnew
                    have HXE := HX.out
                    have hfl : fj.length ≤ 33 := by omega
                    clear hnew hfj he1 hf hsm
                    by_cases hqp : fj = g
                    · have HQ := Lib.hid hqp
                      rw [if_pos hqp] at hle
                      have hE2 : E + e1 ≤ 100 := by omega
                      have HX2 : Hid (E + e1 = E1 + Q.expE ((strip L2).take (k + 1)) g) := by
                        show _ = _
                        rw [HNEW.out, if_pos HQ.out]; omega
                      have HT : Hid (fj = g ↔ (true : Bool) = true) ∨ True := .inr trivial
                      clear hqp HXE HX hle HT
                      go_wp2_with (fail)
                      go_quiet ((go_at_call 25; exact still_draw _ _ (Same_is fj g _ _ true _ (HRJ.out _) (HRG.out _) (by omega) (by omega) ⟨fun _ => rfl, fun _ => HQ.out⟩)))
                      go_wp2_with (fail)
                      go_roundw
                      case rel => exact ⟨k + 1, E + e1, _, by go_num, by go_num, by omega, hE2, rfl, HX2⟩
                      case measure => simp [intOf]; omega
                    · have HQ := Lib.hid hqp
                      have HX2 : Hid (E = E1 + Q.expE ((strip L2).take (k + 1)) g) := by
                        show _ = _
                        rw [HNEW.out, if_neg HQ.out]; omega
                      clear hqp HXE HX hle
                      go_wp2_with (fail)
                      go_quiet ((go_at_call 25; exact still_draw _ _ (Same_is fj g _ _ false _ (HRJ.out _) (HRG.out _) (by omega) (by omega) ⟨fun h => absurd h HQ.out, fun h => by cases h⟩)))
                      go_wp2_with (fail)
                      go_roundw
                      case rel => exact ⟨k + 1, E, _, by go_num, rfl, by omega, hE, rfl, HX2⟩
                      case measure => simp [intOf]; omega
                  · obtain rfl : k = L2.length := by omega
                    have HX3 : Hid (E = e3) := by
                      have h1 := HX.out
                      have h2 := HX1.out
                      rw [List.take_of_length_le (by rw [strip_len]; omega)] at h1
                      show _ = _
                      rw [h1, h2, ← HSUM.out]
                    have he3 : ((E : Int) == (e3 : Int)) = true := by rw [HX3.out]; simp
                    have he4 : ((E : Int) != (e3 : Int)) = false := by rw [HX3.out]; simp
                    have HX4 := HX3
                    clear HX HX3
                    go_wp2_with (fail)
                    go_roundw
                    case rel => exact ⟨i + 1, _, by go_num, by omega, rfl⟩
                    case measure => simp [intOf]; omega
          · obtain rfl : i = L3.length := by omega
            have HBZ := Lib.hid (below_drewN HB11.out m)
            go_wp2_with (fail)
            refine (awake_is _).mono ?_
            rintro e w9 ⟨rfl, hB⟩
            have HB99 := Lib.hid (HBZ.out.trans (hB.mono HBZ.out.size))
            clear hB
            go_wp2_with (fail)
            go_ret
            exact ⟨rfl, HB99.out⟩


set_option maxRecDepth 100000 in
theorem lifted (os : Os) (started : os.Started) (H : Type) (enc : TypeId × Value → H) :
    ReturnsInHanded {} Try.checked os 13 .any (Rows.polyProductsSpec.pre6 enc Try.prog Try.f13 Rows.polyProductsRow.domain false) (Rows.polyProductsSpec.post enc Try.prog Try.f13 false true false false) := by
  refine returnsInHanded_of_change (C := Try.checked) own started (by kernel_rfl) Try.func13
    (ChangeSpec.witness6 (enc := enc) (C := Try.checked) false ⟨#[], #[.int .i64 0, .agg #[.slice none 0 0, .slice none 0 0]], []⟩ 8 (by kernel_rfl) (by kernel_rfl) (by kernel_rfl) (by kernel_rfl)) ?_
  intro W base args ds gs before hval0 hW hcnd _
  have hval : ∀ (j : Nat) t v, Try.f13.params[j]? = some t → args[j]? = some v → Value.okWide Try.prog W .any base t v := hval0
  have hW' := hW
  obtain ⟨p, q, hA0, hV, rfl, hfz, hnd⟩ := hW
  have hA : DataW.TrodAll enc Try.prog W 0 (fun _ => true) true Try.f13.params.toList args.toList ds p := hA0
  rw [Try.params13] at hA hval
  obtain ⟨v0, vs0, d0, ds0, p0, q0, hargs, rfl, rfl, h0, r0⟩ := trodAll_cons hA
  obtain ⟨v1, vs1, d1, ds1, p1, q1, rfl, rfl, rfl, h1, r1⟩ := trodAll_cons r0
  obtain ⟨rfl, rfl, rfl⟩ := trodAll_nil r1
  obtain rfl : args = #[v0, v1] := by cases args; simp_all
  obtain ⟨rfl, rfl⟩ := trodVars_none hV
  have hlt := hW'.lt
  obtain ⟨a0, rfl, rfl, rfl, w0⟩ := open_int Try.underlying3 (hval 0 3 v0 rfl rfl) h0
  obtain ⟨va1, vb1, Za1, Zb1, rfl, hZa1, hZb1⟩ := argP_of (hval 1 24 v1 rfl rfl) h1
  clear hA0 hval0
  simp only [List.append_nil] at hW'
  refine (walk a0 va1 vb1 Za1 Zb1 W hZa1 hZb1).mono fun e W' ⟨he, hg⟩ => ?_
  subst he
  exact ⟨_, rfl, _, _, _, [], [] ++ (p1 ++ ([])), [], hW', trodAll_cons_mk (shut_bool Try.underlying4 _) trodAll_mk0, trodAll_cons_mk (shut_int Try.underlying3 w0) (trodAll_cons_mk (Below.trod (by kernel_rfl) (by kernel_rfl) (by decide +kernel) h1 hg (fun x hx => hlt x (by simp [hx]))) trodAll_mk0), rfl, hg.frame _, fun h => by cases h⟩

theorem over : Rows.polyProductsRow.holds Try.pinned (OpenSpec.ofChange Rows.polyProductsSpec) :=
  OpenClaim.holds_of_wide 13 Try.f13 rfl rfl rfl rfl rfl rfl rfl ⟨rfl, rfl, rfl, rfl, rfl⟩ rfl rfl rfl rfl rfl (by kernel_rfl) Try.func13 (by kernel_rfl)
    (of_decide_eq_true (by kernel_rfl)) (by unfold Func.isWrapper; first | (rw [if_pos (by decide +kernel)]; kernel_rfl) | (rw [if_neg (by decide +kernel)]; exact ⟨rfl, rfl⟩))
    (fun os started H enc _ => lifted os started H enc)

theorem proved : Rows.PolyProductsSaid := over

end Go.Proofs.Ytgnpohapmijfiaa.polyProducts
