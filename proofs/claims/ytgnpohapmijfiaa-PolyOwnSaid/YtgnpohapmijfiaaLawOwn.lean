/- Results are new memory, and no function changes its arguments. No condition. -/
import Derived.Test.YtgnpohapmijfiaaG16
import Derived.Test.YtgnpohapmijfiaaG13
import Derived.Deep.RegionHeld3
import Derived.ProofKit
import Derived.OpenShut
namespace Go.Proofs.Ytgnpohapmijfiaa.polyOwn
open Go.ChangeShapes Go.WideShapes Go.ChangeAt Go.RowKit

theorem own : ownKnob Try.prog.godebug = none := by kernel_rfl


set_option maxRecDepth 100000 in
set_option maxHeartbeats 8000000 in
theorem walk (p : Int) (va vb : Value) (Za Zb : List Int) (w : World) (hva : Hid (ArgI w va Za)) (hvb : Hid (ArgI w vb Zb)) :
    Calls Try.prog 17 #[.int .i64 p, .agg #[va, vb]] w fun e w' => e = .returned (.bool true) ∧ Below w.heap.size w w' := by
  obtain ⟨xa, na, ca, hsa⟩ := hva.out.form
  obtain ⟨xb, nb, cb, hsb⟩ := hvb.out.form
  subst hsa hsb
  obtain ⟨X, hX⟩ : ∃ X, X = w.alloc (.cells #[.slice xa na ca, .slice xb nb cb] 24) := ⟨_, rfl⟩
  have HA : Hid (Below w.heap.size w X) := by rw [hX]; exact (Below.refl _ _).alloc (Nat.le_refl _) _
  have hXz : w.heap.size < X.heap.size := by rw [hX]; simp
  have hca : X.cell? ⟨w.heap.size, 0, none⟩ = some (.slice xa na ca) := by rw [hX]; simp
  have hcb : X.cell? ⟨w.heap.size, 1, none⟩ = some (.slice xb nb cb) := by rw [hX]; simp
  have HXS : Hid (∀ W, Below X.heap.size X W → W.cell? ⟨w.heap.size, 0, none⟩ = some (.slice xa na ca) ∧ W.cell? ⟨w.heap.size, 1, none⟩ = some (.slice xb nb cb)) := fun W h =>
    ⟨by rw [h.cell (p := ⟨w.heap.size, 0, none⟩) hXz]; exact hca, by rw [h.cell (p := ⟨w.heap.size, 1, none⟩) hXz]; exact hcb⟩
  have HVa : Hid (∀ W, Below X.heap.size X W → ArgI W (.slice xa na ca) Za) := fun W h => (hva.out.below HA.out).below h
  have HVb : Hid (∀ W, Below X.heap.size X W → ArgI W (.slice xb nb cb) Zb) := fun W h => (hvb.out.below HA.out).below h
  have HXD : Hid (Below X.heap.size X X.drew) := (Below.refl _ _).drew
  have HVA0 := hva
  have HVB0 := hvb
  clear hva hvb
  go_enter Try.func17, Try.ntmps17
  go_wp2_with (fail)
  rw [← hX]
  have HX := Lib.hid hX
  clear hX
  refine (field_is p X).mono ?_
  rintro e wz ⟨⟨q, rfl, hP0, hq⟩, hw⟩
  subst hw
  have HP := Lib.hid hP0
  have hp2 : 2 ≤ q := hP0.1
  clear hP0
  go_upto_region 2 with fail
  go_cut [5, 6] (fun f g wx => ∃ (vf vg : Value) (W5 : World), f = vf ∧ g = vg ∧ W5 = wx ∧ Hid (NewL w wx vf (Q.trim (Q.tameL q 12 Za))) ∧ Hid (NewL w wx vg (Q.trim (Q.tameL q 12 Zb))) ∧ Hid (Below w.heap.size w wx) ∧ Hid (wx.cell? ⟨w.heap.size, 0, none⟩ = some (.slice xa na ca) ∧ wx.cell? ⟨w.heap.size, 1, none⟩ = some (.slice xb nb cb)) ∧ w.heap.size < wx.heap.size)
  case first =>
    go_region_held3 (fun w' => w'.cell? ⟨w.heap.size, 0, none⟩ = some (.slice xa na ca) ∧ w'.cell? ⟨w.heap.size, 1, none⟩ = some (.slice xb nb cb)) (first | exact ⟨k1, k2⟩ | exact HXS.out _ HXD.out)
      ((go_at_call 41; refine (tame_is q 12 _ _ _ hp2 hq (by omega) (by first | exact HVa.out _ (by first | exact HXD.out | exact HKB.out) | exact HVb.out _ (by first | exact HXD.out | exact HKA.out))).mono ?_; rintro e wN ⟨⟨vN, rfl, hN⟩, hB⟩; have hK : Below X.heap.size X wN := own_step (by first | exact HXD.out | exact HKA.out | exact HKB.out) hB; have k1 := (HXS.out _ hK).1; have k2 := (HXS.out _ hK).2; first | (have HNA : Hid (NewL _ wN vN (Q.trim (Q.tameL q 12 Za))) := hN; have HKA := Lib.hid hK; have HBA := Lib.hid hB) | (have HNB : Hid (NewL _ wN vN (Q.trim (Q.tameL q 12 Zb))) := hN; have HKB := Lib.hid hK; have HBB := Lib.hid hB); clear hN hB hK))
    all_goals
      go_wp2_with (fail)
      go_meet
      first
        | (have h := tame_two HA.out HXD.out HNA.out HBA.out HNB.out HBB.out; exact ⟨_, _, _, rfl, rfl, rfl, h.1, h.2.1, h.2.2, HXS.out _ HKB.out, Nat.lt_of_lt_of_le hXz HKB.out.size⟩)
        | (have h := tame_two HA.out HXD.out HNB.out HBB.out HNA.out HBA.out; exact ⟨_, _, _, rfl, rfl, rfl, h.2.1, h.1, h.2.2, HXS.out _ HKA.out, Nat.lt_of_lt_of_le hXz HKA.out.size⟩)
  case rest =>
    obtain ⟨vf, vg, w1, rfl, rfl, rfl, HNF, HNG, HB1, HC1, hXz1⟩ := hcut
    clear hca hcb hXz HXS HVa HVb HXD HA HX
    have hXz := hXz1
    have HA : Hid (Below w1.heap.size w1 w1) := Below.refl _ _
    have HXS : Hid (∀ W, Below w1.heap.size w1 W → W.cell? ⟨w.heap.size, 0, none⟩ = some (.slice xa na ca) ∧ W.cell? ⟨w.heap.size, 1, none⟩ = some (.slice xb nb cb)) := fun W h =>
      ⟨by rw [h.cell (p := ⟨w.heap.size, 0, none⟩) hXz]; exact HC1.out.1, by rw [h.cell (p := ⟨w.heap.size, 1, none⟩) hXz]; exact HC1.out.2⟩
    have HVa : Hid (∀ W, Below w1.heap.size w1 W → ArgI W (.slice xa na ca) Za) := fun W h => (HVA0.out.below HB1.out).below h
    have HVb : Hid (∀ W, Below w1.heap.size w1 W → ArgI W (.slice xb nb cb) Zb) := fun W h => (HVB0.out.below HB1.out).below h
    have HXD : Hid (Below w1.heap.size w1 w1.drew) := (Below.refl _ _).drew
    obtain ⟨a1, c1, hv1⟩ := HNF.out.rd.shape
    obtain ⟨a2, c2, hv2⟩ := HNG.out.rd.shape
    subst hv1 hv2
    go_upto_region 3 with fail
    go_cut [7, 8] (fun f g wx => ∃ (vf vg : Value) (W5 : World), f = vf ∧ g = vg ∧ W5 = wx ∧ Hid (NewL w1 wx vf (Q.trim (Q.tameL q 12 Za))) ∧ Hid (NewL w1 wx vg (Q.trim (Q.tameL q 12 Zb))) ∧ Hid (Below w1.heap.size w1 wx) ∧ Hid (wx.cell? ⟨w.heap.size, 0, none⟩ = some (.slice xa na ca) ∧ wx.cell? ⟨w.heap.size, 1, none⟩ = some (.slice xb nb cb)) ∧ w.heap.size < wx.heap.size)
    case first =>
      go_region_held3 (fun w' => w'.cell? ⟨w.heap.size, 0, none⟩ = some (.slice xa na ca) ∧ w'.cell? ⟨w.heap.size, 1, none⟩ = some (.slice xb nb cb)) (first | exact ⟨k1, k2⟩ | exact HXS.out _ HXD.out)
        ((go_at_call 41; refine (tame_is q 12 _ _ _ hp2 hq (by omega) (by first | exact HVa.out _ (by first | exact HXD.out | exact HKB.out) | exact HVb.out _ (by first | exact HXD.out | exact HKA.out))).mono ?_; rintro e wN ⟨⟨vN, rfl, hN⟩, hB⟩; have hK : Below w1.heap.size w1 wN := own_step (by first | exact HXD.out | exact HKA.out | exact HKB.out) hB; have k1 := (HXS.out _ hK).1; have k2 := (HXS.out _ hK).2; first | (have HNA : Hid (NewL _ wN vN (Q.trim (Q.tameL q 12 Za))) := hN; have HKA := Lib.hid hK; have HBA := Lib.hid hB) | (have HNB : Hid (NewL _ wN vN (Q.trim (Q.tameL q 12 Zb))) := hN; have HKB := Lib.hid hK; have HBB := Lib.hid hB); clear hN hB hK))
      all_goals
        go_wp2_with (fail)
        go_meet
        first
          | (have h := tame_two HA.out HXD.out HNA.out HBA.out HNB.out HBB.out; exact ⟨_, _, _, rfl, rfl, rfl, h.1, h.2.1, h.2.2, HXS.out _ HKB.out, Nat.lt_of_lt_of_le hXz HKB.out.size⟩)
          | (have h := tame_two HA.out HXD.out HNB.out HBB.out HNA.out HBA.out; exact ⟨_, _, _, rfl, rfl, rfl, h.2.1, h.1, h.2.2, HXS.out _ HKA.out, Nat.lt_of_lt_of_le hXz HKA.out.size⟩)
    case rest =>
      obtain ⟨vf2, vg2, w2, rfl, rfl, rfl, HNA, HNB, HB2', HC2, hXz2⟩ := hcut
      obtain ⟨F, hF⟩ : ∃ F, F = Q.trim (Q.tameL q 12 Za) := ⟨_, rfl⟩
      obtain ⟨G, hG⟩ : ∃ G, G = Q.trim (Q.tameL q 12 Zb) := ⟨_, rfl⟩
      have HPF : Hid (Q.Pol q F) := by rw [hF]; exact (Q.tameL_red (by omega) _ _).trim
      have HPG : Hid (Q.Pol q G) := by rw [hG]; exact (Q.tameL_red (by omega) _ _).trim
      have hFl : F.length ≤ 12 := by rw [hF]; exact Q.tame_len q 12 Za
      have hGl : G.length ≤ 12 := by rw [hG]; exact Q.tame_len q 12 Zb
      rw [← hF] at HNF HNA ⊢
      rw [← hG] at HNG HNB ⊢
      have HB2 := Lib.hid (HB1.out.trans (HB2'.out.mono HB1.out.size))
      obtain ⟨a3, c3, hv3⟩ := HNA.out.rd.shape
      obtain ⟨a4, c4, hv4⟩ := HNB.out.rd.shape
      subst hv3 hv4
      have RF2 : Hid (Rd w2 (.slice a1 F.length c1) 1 F.length (nats F)) := HNF.out.rd.below HB2'.out (Nat.le_refl _)
      have RG2 : Hid (Rd w2 (.slice a2 G.length c2) 1 G.length (nats G)) := HNG.out.rd.below HB2'.out (Nat.le_refl _)
      have RA2 : Hid (Rd w2 (.slice a3 F.length c3) 1 F.length (nats F)) := HNA.out.rd
      have RB2 : Hid (Rd w2 (.slice a4 G.length c4) 1 G.length (nats G)) := HNB.out.rd
      have RF := RF2
      have RG := RG2
      have RA := RA2
      have RB := RB2
      clear hXz HXS HVa HVb HXD HA hF hG HNA HNB HNF HNG HB1 HB2' HC1 HC2 hXz1 hXz2 HVA0 HVB0
      have BASE2 : Hid (Below w2.heap.size w2 w2) := Below.refl _ _
      have HS2 : Hid (w2.heap.size ≤ w2.heap.size) := Nat.le_refl _
      have RN : Hid (Rd w2 (.slice none 0 0) 1 ([] : List Nat).length (nats [])) := ⟨rfl, none, 0, rfl, Nat.le_refl _, .inl rfl⟩
      have HPN : Hid (Q.Pol q []) := Q.Pol.nil q
      obtain ⟨S, hS⟩ : ∃ S, S = Q.sumP q F [] := ⟨_, rfl⟩
      have HSS := Lib.hid hS
      clear hS
      go_wp2_with (fail)
      refine (Add_ok q F [] _ _ _ HP hq RF2 RN HPF HPN (by omega) (by simp)).mono ?_
      rintro e w3 ⟨⟨vz, rfl, hN⟩, hB⟩
      rw [← HSS.out] at hN
      have HB3 := Lib.hid (HB2.out.trans (hB.mono HB2.out.size))
      have RF3 : Hid (Rd w3 (.slice a1 F.length c1) 1 F.length (nats F)) := RF2.out.below hB (Nat.le_refl _)
      have RG3 : Hid (Rd w3 (.slice a2 G.length c2) 1 G.length (nats G)) := RG2.out.below hB (Nat.le_refl _)
      clear RF2 RG2
      have OS3 : Hid (NewL w2 w3 vz S) := hN.from HS2.out
      obtain ⟨qS, kS, hvS⟩ := hN.rd.shape
      subst hvS
      clear hN
      have BASE3 : Hid (Below w2.heap.size w2 w3) := BASE2.out.trans (hB.mono HS2.out)
      have HS3 : Hid (w2.heap.size ≤ w3.heap.size) := Nat.le_trans HS2.out hB.size
      clear hB
      go_wp2_with (fail)
      refine (Div_own q F G _ _ _ HP hq RF3 RG3 HPF HPG (by omega) (by omega)).mono ?_
      rintro e w4 ⟨⟨ed, vq, vr, LQ, LR, rfl, hNq, hNr⟩, hB⟩
      have HB4 := Lib.hid (HB3.out.trans (hB.mono HB3.out.size))
      have RF4 : Hid (Rd w4 (.slice a1 F.length c1) 1 F.length (nats F)) := RF3.out.below hB (Nat.le_refl _)
      have RG4 : Hid (Rd w4 (.slice a2 G.length c2) 1 G.length (nats G)) := RG3.out.below hB (Nat.le_refl _)
      clear RF3 RG3
      have OS4 : Hid (NewL w2 w4 (.slice qS S.length kS) S) := OS3.out.keep hB
      clear OS3
      have OQ4 : Hid (NewL w2 w4 vq LQ) := hNq.from HS3.out
      obtain ⟨qQ, kQ, hvQ⟩ := hNq.rd.shape
      subst hvQ
      clear hNq
      have OR4 : Hid (NewL w2 w4 vr LR) := hNr.from HS3.out
      obtain ⟨qR, kR, hvR⟩ := hNr.rd.shape
      subst hvR
      clear hNr
      have BASE4 : Hid (Below w2.heap.size w2 w4) := BASE3.out.trans (hB.mono HS3.out)
      have HS4 : Hid (w2.heap.size ≤ w4.heap.size) := Nat.le_trans HS3.out hB.size
      clear hB
      go_wp2_with (fail)
      refine (Gcd_own q F G _ _ _ HP hq RF4 RG4 HPF HPG (by omega) (by omega)).mono ?_
      rintro e w5 ⟨⟨vd, va, vb, LD, LA, LB, rfl, hNd, hNa, hNb⟩, hB⟩
      have HB5 := Lib.hid (HB4.out.trans (hB.mono HB4.out.size))
      have RF5 : Hid (Rd w5 (.slice a1 F.length c1) 1 F.length (nats F)) := RF4.out.below hB (Nat.le_refl _)
      have RG5 : Hid (Rd w5 (.slice a2 G.length c2) 1 G.length (nats G)) := RG4.out.below hB (Nat.le_refl _)
      clear RF4 RG4
      have OS5 : Hid (NewL w2 w5 (.slice qS S.length kS) S) := OS4.out.keep hB
      have OQ5 : Hid (NewL w2 w5 (.slice qQ LQ.length kQ) LQ) := OQ4.out.keep hB
      have OR5 : Hid (NewL w2 w5 (.slice qR LR.length kR) LR) := OR4.out.keep hB
      clear OS4 OQ4 OR4
      have OD5 : Hid (NewL w2 w5 vd LD) := hNd.from HS4.out
      obtain ⟨qD, kD, hvD⟩ := hNd.rd.shape
      subst hvD
      clear hNd
      have OA5 : Hid (NewL w2 w5 va LA) := hNa.from HS4.out
      obtain ⟨qA, kA, hvA⟩ := hNa.rd.shape
      subst hvA
      clear hNa
      have OB5 : Hid (NewL w2 w5 vb LB) := hNb.from HS4.out
      obtain ⟨qB, kB, hvB⟩ := hNb.rd.shape
      subst hvB
      clear hNb
      have BASE5 : Hid (Below w2.heap.size w2 w5) := BASE4.out.trans (hB.mono HS4.out)
      have HS5 : Hid (w2.heap.size ≤ w5.heap.size) := Nat.le_trans HS4.out hB.size
      clear hB
      go_wp2_with (fail)
      refine (Factor_own q F _ _ HP hq RF5 HPF (by omega)).mono ?_
      rintro e w6 ⟨⟨fc, fe, vl, L, rfl, hL, hLl⟩, hB⟩
      have HFR : Hid (∀ x ∈ L, RowW w2.heap.size w6.heap.size w6 x.1) := fun x hx => RowW.of (own_base (hL.rows x hx).own HS5.out)
      have HL0 := Lib.hid (RdFac.of hL)
      obtain ⟨bl, dl, hvl, hdl⟩ := HL0.out.shape
      subst hvl
      clear hL
      have HB6 := Lib.hid (HB5.out.trans (hB.mono HB5.out.size))
      have RF6 : Hid (Rd w6 (.slice a1 F.length c1) 1 F.length (nats F)) := RF5.out.below hB (Nat.le_refl _)
      have RG6 : Hid (Rd w6 (.slice a2 G.length c2) 1 G.length (nats G)) := RG5.out.below hB (Nat.le_refl _)
      clear RF5 RG5
      have OS6 : Hid (NewL w2 w6 (.slice qS S.length kS) S) := OS5.out.keep hB
      have OQ6 : Hid (NewL w2 w6 (.slice qQ LQ.length kQ) LQ) := OQ5.out.keep hB
      have OR6 : Hid (NewL w2 w6 (.slice qR LR.length kR) LR) := OR5.out.keep hB
      have OD6 : Hid (NewL w2 w6 (.slice qD LD.length kD) LD) := OD5.out.keep hB
      have OA6 : Hid (NewL w2 w6 (.slice qA LA.length kA) LA) := OA5.out.keep hB
      have OB6 : Hid (NewL w2 w6 (.slice qB LB.length kB) LB) := OB5.out.keep hB
      clear OS5 OQ5 OR5 OD5 OA5 OB5
      have BASE6 : Hid (Below w2.heap.size w2 w6) := BASE5.out.trans (hB.mono HS5.out)
      have HS6 : Hid (w2.heap.size ≤ w6.heap.size) := Nat.le_trans HS5.out hB.size
      clear hB
      have HROW : Hid (∀ u ∈ [.slice qS S.length kS, .slice qQ LQ.length kQ, .slice qR LR.length kR, .slice qD LD.length kD, .slice qA LA.length kA, .slice qB LB.length kB], RowW w2.heap.size w6.heap.size w6 u) := by
        intro u hu
        simp only [List.mem_cons, List.not_mem_nil, or_false] at hu
        rcases hu with rfl | rfl | rfl | rfl | rfl | rfl
        · exact RowW.of OS6.out
        · exact RowW.of OQ6.out
        · exact RowW.of OR6.out
        · exact RowW.of OD6.out
        · exact RowW.of OA6.out
        · exact RowW.of OB6.out
      have HOWN : Hid ((w6.alloc (.cells #[.slice qS S.length kS, .slice qQ LQ.length kQ, .slice qR LR.length kR, .slice qD LD.length kD, .slice qA LA.length kA, .slice qB LB.length kB] 22)).ownsRow w6.heap.size 22 1 (.slice (some ⟨w6.heap.size, 0, none⟩) 6 6) 6 [.slice qS S.length kS, .slice qQ LQ.length kQ, .slice qR LR.length kR, .slice qD LD.length kD, .slice qA LA.length kA, .slice qB LB.length kB]) :=
        World.ownsRow_lit (base := w6.heap.size) (e := 22) (size := 1) w6 #[.slice qS S.length kS, .slice qQ LQ.length kQ, .slice qR LR.length kR, .slice qD LD.length kD, .slice qA LA.length kA, .slice qB LB.length kB] 6 (Nat.le_refl _) (by unfold maxLen; omega) rfl
      have HBA : Hid (Below w6.heap.size w6 (w6.alloc (.cells #[.slice qS S.length kS, .slice qQ LQ.length kQ, .slice qR LR.length kR, .slice qD LD.length kD, .slice qA LA.length kA, .slice qB LB.length kB] 22))) := (Below.refl _ _).alloc (Nat.le_refl _) _
      clear OS6 OQ6 OR6 OD6 OA6 OB6 RN HPN
      obtain ⟨i1, hi1, hy0, hy1, hy2⟩ := info_parts Try.infoS
      obtain ⟨N, hN⟩ : ∃ N, N = L.length := ⟨_, rfl⟩
      have HN := Lib.hid hN
      rw [← hN] at hLl hdl HL0 ⊢
      clear hN
      go_wp2_with (fail)
      obtain ⟨us, hus⟩ : ∃ us : List Value, us = [.slice qS S.length kS, .slice qQ LQ.length kQ, .slice qR LR.length kR, .slice qD LD.length kD, .slice qA LA.length kA, .slice qB LB.length kB] := ⟨_, rfl⟩
      have HROW : Hid (∀ u ∈ us, RowW w2.heap.size w6.heap.size w6 u) := by rw [hus]; exact HROW.out
      have HUL : Hid (us.length = 6) := by rw [hus]; rfl
      have HST : Hid ((w6.alloc (.cells #[.slice qS S.length kS, .slice qQ LQ.length kQ, .slice qR LR.length kR, .slice qD LD.length kD, .slice qA LA.length kA, .slice qB LB.length kB] 22)).ownsRow w6.heap.size 22 1 (.slice (some ⟨w6.heap.size, 0, none⟩) 6 6) 6 (us ++ (L.take 0).map fun x => x.1)) := by
        show World.ownsRow _ _ _ _ _ _ _
        rw [List.take_zero, List.map_nil, List.append_nil, hus]; exact HOWN.out
      clear HOWN hus
      go_loopw [21, 22] (fun av iv wx => ∃ (k m cp : Nat) (a : Option Addr) (vs : List Value), av = .slice a m cp ∧ iv = .int .i64 k ∧ k ≤ N ∧ Hid (m = 6 + k) ∧ Hid (vs = us ++ (L.take k).map fun x => x.1) ∧ Hid (wx.ownsRow w6.heap.size 22 1 (.slice a m cp) m vs) ∧ Hid (Below w6.heap.size w6 wx)) (fun _ iv _ => N - (intOf iv).toNat)
      case atStart => exact ⟨0, 6, 6, _, _, rfl, rfl, by omega, rfl, rfl, HST, HBA⟩
      case round =>
        obtain ⟨k, m, cp, a, vs, rfl, rfl, hk, HM, HVS, HOW, HBW⟩ := hrel
        by_cases hlt : k < N
        · obtain ⟨b, x, cx, hf0⟩ := HL0.out.at k (by have := HN.out; omega)
          obtain rfl := hf0.eq
          have hf := hf0.below HBW.out
          have c0 := hf.c0
          obtain ⟨u, hu⟩ : ∃ u, u = Value.slice x L[k].2.1.length cx := ⟨_, rfl⟩
          have hcu : wr.cell? ⟨b, k * 2, none⟩ = some u := by rw [hu]; exact c0
          have hlx : L[k].1 = u := by
            have h1 := hf0.c0
            have hkL : k < L.length := by have := HN.out; omega
            obtain ⟨_, a', cap', e1, _, e2⟩ := HL0.out.rd
            injection e1 with e1
            subst e1
            rcases e2 with h0 | ⟨b', e3, hb', hcell⟩
            · have := HN.out; omega
            · injection e3 with e3; injection e3 with e3; subst e3
              have := hcell _ _ (flatF_two L k hkL).1
              rw [h1] at this; injection this with this; rw [hu, this]
          obtain ⟨M0, hM0⟩ : ∃ M0, M0 = L[k].2.1.length := ⟨_, rfl⟩
          rw [← hM0] at hu
          have HVN : Hid (vs ++ [u] = us ++ (L.take (k + 1)).map fun x => x.1) := by
            have hkL : k < L.length := by have := HN.out; omega
            show _ = _
            rw [HVS.out, List.take_succ_eq_append_getElem hkL, List.map_append, List.map_cons, List.map_nil, hlx, List.append_assoc]
          have hml : m ≤ 39 := by have := HM.out; omega
          have hown := own_form HOW.out
          subst hu
          clear c0 hf hf0 hlx hM0 hown
          go_wp2_with (at_builtin; refine wpList_append_own _ rfl _ _ 70 rfl w6.heap.size 22 i1 (.slice none 0 0) 1 24 Try.underlying70 hi1 hy0 hy1 hy2 rfl (by decide) _ _ _ rfl (HOW.out.alloc _) ⟨wr.heap.size, 0, none⟩ 1 1 [.slice x M0 cx] rfl rfl ?c1 ?c2 ?c3 ?c4 ?c5 ?_)
          case c1 => exact cell_one_new _ _ _
          case c2 => intro u hu; simp at hu; rw [hu]; rfl
          case c3 => unfold maxLen; omega
          case c4 => omega
          case c5 => simp; have := HBW.out.size; omega
          intro v' w9 hown9 hgrow9 _
          have hBa : Below wr.heap.size wr (wr.alloc (.cells #[.slice x M0 cx] 22)) := (Below.refl _ _).alloc (Nat.le_refl _) _
          have HB9 : Hid (Below w6.heap.size w6 w9) := (HBW.out.trans (hBa.mono HBW.out.size)).grown hgrow9 (Nat.le_trans HBW.out.size hBa.size) fun g hg' => (HOW.out.lt g hg').1
          obtain ⟨a9, cap9, hv9, _⟩ := own_form hown9
          subst hv9
          have HOW9 := Lib.hid hown9
          have HM9 : Hid (m + 1 = 6 + (k + 1)) := by have := HM.out; show _ = _; omega
          clear hown9 hgrow9 hBa
          go_wp2_with (fail)
          go_roundw
          case rel => exact ⟨k + 1, m + 1, cap9, a9, _, by first | rfl | go_num, by go_num, by omega, HM9, HVN, HOW9, HB9⟩
          case measure => simp [intOf]; omega
        · obtain rfl : k = N := by omega
          have hm0 : 6 ≤ m := by have := HM.out; omega
          have hm1 : m ≤ 39 := by have := HM.out; omega
          have hvl : vs.length = m := by have := HOW.out.1; omega
          have HVLEN := Lib.hid hvl
          obtain ⟨ga, cpa, hga, hgc⟩ : ∃ ga cpa, a = some ⟨ga, 0, none⟩ ∧ (w6.heap.size ≤ ga ∧ ga < wr.heap.size ∧ ∀ j u, vs[j]? = some u → wr.cell? ⟨ga, j, none⟩ = some u) ∧ cp = cpa := by
            have hr := Rd.of_own HOW.out
            obtain ⟨_, a', cp', e1, _, e2⟩ := hr
            injection e1 with e1 _ e4
            subst e1
            rcases e2 with h0 | ⟨g, e3, hg, hcell⟩
            · omega
            · subst e3
              exact ⟨g, cp, rfl, ⟨(HOW.out.lt g rfl).1, hg, hcell⟩, rfl⟩
          subst hga
          have hga1 := hgc.1.1
          have HW0 : Hid (WAll w2 w6.heap.size ga vs wr) := by
            refine ⟨(HS6.out |> fun hs => (show Below w2.heap.size w2 w6 from BASE6.out).trans (HBW.out.mono hs)), hgc.1.2.2, fun u hu => ?_⟩
            rw [HVS.out] at hu
            rcases List.mem_append.1 hu with h | h
            · exact (HROW.out u h).keep (Nat.le_refl _) HBW.out
            · obtain ⟨x, hx, rfl⟩ := List.mem_map.1 h
              exact (HFR.out x (List.mem_of_mem_take hx)).keep (Nat.le_refl _) HBW.out
          clear hgc HVS HOW HM hvl HBW HFR HROW HL0
          go_wp2_with (fail)
          go_loopw [23] (fun iv wx => ∃ (i : Nat), iv = .int .i64 i ∧ i ≤ m ∧ Hid (WAll w2 w6.heap.size ga vs wx)) (fun iv _ => m - (intOf iv).toNat)
          case atStart => exact ⟨0, rfl, by omega, HW0⟩
          case round =>
            obtain ⟨i, rfl, hi, HW⟩ := hrel
            by_cases him : i < m
            · have hiv : i < vs.length := by have := HVLEN.out; omega
              obtain ⟨u, hu⟩ : ∃ u, vs[i]? = some u := ⟨_, List.getElem?_eq_getElem hiv⟩
              have HU := Lib.hid hu
              have humem : u ∈ vs := List.mem_of_getElem? hu
              obtain ⟨ua, un, uc, hue, hun, hurow⟩ := HW.out.rows u humem
              subst hue
              have HMEM := Lib.hid humem
              clear hu humem hurow hiv
              go_wp2_with (fail)
              go_loopw [24] (fun kv wx => ∃ (k : Nat), kv = .int .i64 k ∧ k ≤ un ∧ Hid (WAll w2 w6.heap.size ga vs wx)) (fun kv _ => un - (intOf kv).toNat)
              case atStart => exact ⟨0, rfl, by omega, HW⟩
              case round =>
                obtain ⟨k, rfl, hk, HV⟩ := hrel
                have hh := HV.out.hdr i _ HU.out
                by_cases hkn : k < un
                · obtain ⟨ua', un', uc', hue, _, hurow⟩ := HV.out.rows _ HMEM.out
                  injection hue with e1 e2 e3
                  subst e1 e2 e3
                  rcases hurow with h0 | ⟨g, hg, hg1, hg2, hg3, hg4⟩
                  · omega
                  · subst hg
                    obtain ⟨y, hy⟩ := hg3 k hkn
                    have hfr := hg4 k
                    have HVN : Hid (WAll w2 w6.heap.size ga vs (wr.setCell ⟨g, k, none⟩ (.int .i64 (-1)))) := HV.out.set hg1 hg2 hga1 k _
                    clear hg3 hg4
                    go_wp2_with (fail)
                    go_roundw
                    case rel => exact ⟨k + 1, by go_num, by omega, HVN⟩
                    case measure => simp [intOf]; omega
                · obtain rfl : k = un := by omega
                  go_wp2_with (fail)
                  go_roundw
                  case rel => exact ⟨i + 1, by go_num, by omega, HV⟩
                  case measure => simp [intOf]; omega
            · obtain rfl : i = m := by omega
              have HBF : Hid (Below w2.heap.size w2 wr) := HW.out.below
              have RFZ : Hid (Rd wr (.slice a1 F.length c1) 1 F.length (nats F)) := RF.out.below HBF.out (Nat.le_refl _)
              have RGZ : Hid (Rd wr (.slice a2 G.length c2) 1 G.length (nats G)) := RG.out.below HBF.out (Nat.le_refl _)
              have HB50 := Lib.hid (HB2.out.trans (HBF.out.mono HB2.out.size))
              obtain ⟨w50, hw50⟩ : ∃ w50, w50 = wr := ⟨_, rfl⟩
              obtain rfl := hw50
              have RF50 := RFZ
              have RG50 := RGZ
              have RA50 : Hid (Rd w50 (.slice a3 F.length c3) 1 F.length (nats F)) := RA.out.below HBF.out (Nat.le_refl _)
              have RB50 : Hid (Rd w50 (.slice a4 G.length c4) 1 G.length (nats G)) := RB.out.below HBF.out (Nat.le_refl _)
              obtain ⟨T, hT⟩ : ∃ T, T = Q.sumP q F G := ⟨_, rfl⟩
              have HT := Lib.hid hT
              have hTl : T.length ≤ 12 := by rw [hT]; exact Nat.le_trans (Q.sum_len (by omega)) (by omega)
              clear hT RFZ RGZ HW
              go_wp2_with (fail)
              refine (Add_ok q F G _ _ _ HP hq RF50 RG50 HPF HPG (by omega) (by omega)).mono ?_
              rintro e w51 ⟨⟨vz, rfl, hN⟩, hB⟩
              rw [← HT.out] at hN
              have HB51 := Lib.hid (HB50.out.trans (hB.mono HB50.out.size))
              have RF51 : Hid (Rd w51 (.slice a1 F.length c1) 1 F.length (nats F)) := RF50.out.below hB (Nat.le_refl _)
              have RG51 : Hid (Rd w51 (.slice a2 G.length c2) 1 G.length (nats G)) := RG50.out.below hB (Nat.le_refl _)
              have RA51 : Hid (Rd w51 (.slice a3 F.length c3) 1 F.length (nats F)) := RA50.out.below hB (Nat.le_refl _)
              have RB51 : Hid (Rd w51 (.slice a4 G.length c4) 1 G.length (nats G)) := RB50.out.below hB (Nat.le_refl _)
              clear RF50 RG50 RA50 RB50
              have RT51 : Hid (Rd w51 vz 1 T.length (nats T)) := hN.rd
              obtain ⟨qT, kT, hvT⟩ := hN.rd.shape
              subst hvT
              clear hN
              clear hB
              go_wp2_with (fail)
              refine (Same_is F F _ _ true _ RF51 RA51 (by omega) (by omega) ⟨fun _ => rfl, fun _ => rfl⟩).mono ?_
              rintro e w52 ⟨rfl, nn, hw⟩
              have hB : Below w51.heap.size w51 w52 := by rw [hw]; exact below_drewN (Below.refl _ _) _
              clear hw
              have HB52 := Lib.hid (HB51.out.trans (hB.mono HB51.out.size))
              have RF52 : Hid (Rd w52 (.slice a1 F.length c1) 1 F.length (nats F)) := RF51.out.below hB (Nat.le_refl _)
              have RG52 : Hid (Rd w52 (.slice a2 G.length c2) 1 G.length (nats G)) := RG51.out.below hB (Nat.le_refl _)
              have RA52 : Hid (Rd w52 (.slice a3 F.length c3) 1 F.length (nats F)) := RA51.out.below hB (Nat.le_refl _)
              have RB52 : Hid (Rd w52 (.slice a4 G.length c4) 1 G.length (nats G)) := RB51.out.below hB (Nat.le_refl _)
              have RT52 : Hid (Rd w52 (.slice qT T.length kT) 1 T.length (nats T)) := RT51.out.below hB (Nat.le_refl _)
              clear RF51 RG51 RA51 RB51 RT51
              clear hB
              go_wp2_with (fail)
              refine (Same_is G G _ _ true _ RG52 RB52 (by omega) (by omega) ⟨fun _ => rfl, fun _ => rfl⟩).mono ?_
              rintro e w53 ⟨rfl, nn, hw⟩
              have hB : Below w52.heap.size w52 w53 := by rw [hw]; exact below_drewN (Below.refl _ _) _
              clear hw
              have HB53 := Lib.hid (HB52.out.trans (hB.mono HB52.out.size))
              have RF53 : Hid (Rd w53 (.slice a1 F.length c1) 1 F.length (nats F)) := RF52.out.below hB (Nat.le_refl _)
              have RG53 : Hid (Rd w53 (.slice a2 G.length c2) 1 G.length (nats G)) := RG52.out.below hB (Nat.le_refl _)
              have RA53 : Hid (Rd w53 (.slice a3 F.length c3) 1 F.length (nats F)) := RA52.out.below hB (Nat.le_refl _)
              have RB53 : Hid (Rd w53 (.slice a4 G.length c4) 1 G.length (nats G)) := RB52.out.below hB (Nat.le_refl _)
              have RT53 : Hid (Rd w53 (.slice qT T.length kT) 1 T.length (nats T)) := RT52.out.below hB (Nat.le_refl _)
              clear RF52 RG52 RA52 RB52 RT52
              clear hB
              go_wp2_with (fail)
              refine (rAdd_is q F G _ _ _ (by omega) hq RA53 RB53 (Lib.hid HPF.out.red) (Lib.hid HPG.out.red) (by omega) (by omega)).mono ?_
              rintro e w54 ⟨⟨vz, rfl, hN⟩, hB⟩
              rw [← HT.out] at hN
              have HB54 := Lib.hid (HB53.out.trans (hB.mono HB53.out.size))
              have RF54 : Hid (Rd w54 (.slice a1 F.length c1) 1 F.length (nats F)) := RF53.out.below hB (Nat.le_refl _)
              have RG54 : Hid (Rd w54 (.slice a2 G.length c2) 1 G.length (nats G)) := RG53.out.below hB (Nat.le_refl _)
              have RA54 : Hid (Rd w54 (.slice a3 F.length c3) 1 F.length (nats F)) := RA53.out.below hB (Nat.le_refl _)
              have RB54 : Hid (Rd w54 (.slice a4 G.length c4) 1 G.length (nats G)) := RB53.out.below hB (Nat.le_refl _)
              have RT54 : Hid (Rd w54 (.slice qT T.length kT) 1 T.length (nats T)) := RT53.out.below hB (Nat.le_refl _)
              clear RF53 RG53 RA53 RB53 RT53
              have RU54 : Hid (Rd w54 vz 1 T.length (nats T)) := hN.rd
              obtain ⟨qU, kU, hvU⟩ := hN.rd.shape
              subst hvU
              clear hN
              clear hB
              go_wp2_with (fail)
              refine (Same_is T T _ _ true _ RT54 RU54 (by omega) (by omega) ⟨fun _ => rfl, fun _ => rfl⟩).mono ?_
              rintro e w55 ⟨rfl, nn, hw⟩
              have hB : Below w54.heap.size w54 w55 := by rw [hw]; exact below_drewN (Below.refl _ _) _
              clear hw
              have HB55 := Lib.hid (HB54.out.trans (hB.mono HB54.out.size))
              have RF55 : Hid (Rd w55 (.slice a1 F.length c1) 1 F.length (nats F)) := RF54.out.below hB (Nat.le_refl _)
              have RG55 : Hid (Rd w55 (.slice a2 G.length c2) 1 G.length (nats G)) := RG54.out.below hB (Nat.le_refl _)
              have RA55 : Hid (Rd w55 (.slice a3 F.length c3) 1 F.length (nats F)) := RA54.out.below hB (Nat.le_refl _)
              have RB55 : Hid (Rd w55 (.slice a4 G.length c4) 1 G.length (nats G)) := RB54.out.below hB (Nat.le_refl _)
              have RT55 : Hid (Rd w55 (.slice qT T.length kT) 1 T.length (nats T)) := RT54.out.below hB (Nat.le_refl _)
              have RU55 : Hid (Rd w55 (.slice qU T.length kU) 1 T.length (nats T)) := RU54.out.below hB (Nat.le_refl _)
              clear RF54 RG54 RA54 RB54 RT54 RU54
              clear hB
              go_wp2_with (fail)
              refine (awake_is _).mono ?_
              rintro e w9 ⟨rfl, hB⟩
              have HB9 := Lib.hid (HB55.out.trans (hB.mono HB55.out.size))
              clear hB
              go_wp2_with (fail)
              go_ret
              exact ⟨rfl, HB9.out⟩


set_option maxRecDepth 100000 in
theorem lifted (os : Os) (started : os.Started) (H : Type) (enc : TypeId × Value → H) :
    ReturnsInHanded {} Try.checked os 17 .any (Rows.polyOwnSpec.pre6 enc Try.prog Try.f17 Rows.polyOwnRow.domain false) (Rows.polyOwnSpec.post enc Try.prog Try.f17 false true false false) := by
  refine returnsInHanded_of_change (C := Try.checked) own started (by kernel_rfl) Try.func17
    (ChangeSpec.witness6 (enc := enc) (C := Try.checked) false ⟨#[], #[.int .i64 0, .agg #[.slice none 0 0, .slice none 0 0]], []⟩ 8 (by kernel_rfl) (by kernel_rfl) (by kernel_rfl) (by kernel_rfl)) ?_
  intro W base args ds gs before hval0 hW hcnd _
  have hval : ∀ (j : Nat) t v, Try.f17.params[j]? = some t → args[j]? = some v → Value.okWide Try.prog W .any base t v := hval0
  have hW' := hW
  obtain ⟨p, q, hA0, hV, rfl, hfz, hnd⟩ := hW
  have hA : DataW.TrodAll enc Try.prog W 0 (fun _ => true) true Try.f17.params.toList args.toList ds p := hA0
  rw [Try.params17] at hA hval
  obtain ⟨v0, vs0, d0, ds0, p0, q0, hargs, rfl, rfl, h0, r0⟩ := trodAll_cons hA
  obtain ⟨v1, vs1, d1, ds1, p1, q1, rfl, rfl, rfl, h1, r1⟩ := trodAll_cons r0
  obtain ⟨rfl, rfl, rfl⟩ := trodAll_nil r1
  obtain rfl : args = #[v0, v1] := by cases args; simp_all
  obtain ⟨rfl, rfl⟩ := trodVars_none hV
  have hlt := hW'.lt
  obtain ⟨a0, rfl, rfl, rfl, w0⟩ := open_int Try.underlying3 (hval 0 3 v0 rfl rfl) h0
  obtain ⟨va1, vb1, Za1, Zb1, rfl, hZa1, hZb1⟩ := argP_of (hval 1 24 v1 rfl rfl) h1
  clear hA0 hval0
  simp only [List.append_nil] at hW'
  refine (walk a0 va1 vb1 Za1 Zb1 W hZa1 hZb1).mono fun e W' ⟨he, hg⟩ => ?_
  subst he
  exact ⟨_, rfl, _, _, _, [], [] ++ (p1 ++ ([])), [], hW', trodAll_cons_mk (shut_bool Try.underlying4 _) trodAll_mk0, trodAll_cons_mk (shut_int Try.underlying3 w0) (trodAll_cons_mk (Below.trod (by kernel_rfl) (by kernel_rfl) (by decide +kernel) h1 hg (fun x hx => hlt x (by simp [hx]))) trodAll_mk0), rfl, hg.frame _, fun h => by cases h⟩

theorem over : Rows.polyOwnRow.holds Try.pinned (OpenSpec.ofChange Rows.polyOwnSpec) :=
  OpenClaim.holds_of_wide 17 Try.f17 rfl rfl rfl rfl rfl rfl rfl ⟨rfl, rfl, rfl, rfl, rfl⟩ rfl rfl rfl rfl rfl (by kernel_rfl) Try.func17 (by kernel_rfl)
    (of_decide_eq_true (by kernel_rfl)) (by unfold Func.isWrapper; first | (rw [if_pos (by decide +kernel)]; kernel_rfl) | (rw [if_neg (by decide +kernel)]; exact ⟨rfl, rfl⟩))
    (fun os started H enc _ => lifted os started H enc)

theorem proved : Rows.PolyOwnSaid := over

end Go.Proofs.Ytgnpohapmijfiaa.polyOwn
