/- For any field and polynomial, Factor returns the last coefficient and the irreducible factors in their order, ErrZero for 0, or ErrArg; Irreducible reports whether the polynomial is irreducible. No condition. -/
import Derived.Test.YtbehihanhfmmhaaGreatG11
import Derived.Test.YtbehihanhfmmhaaGreatG12
import Derived.Test.YtbehihanhfmmhaaGreatG13
import Derived.Deep.RegionHeld3
import Derived.ProofKit
import Derived.OpenShut
namespace Go.Proofs.YtbehihanhfmmhaaGreat.polyFactors
open Go.ChangeShapes Go.WideShapes Go.ChangeAt Go.RowKit

theorem own : ownKnob Tryz.prog.godebug = none := by kernel_rfl

set_option maxRecDepth 100000 in
set_option maxHeartbeats 4000000 in
theorem walk (p : Int) (v : Value) (Z : List Int) (w : World) (hv : Hid (ArgI w v Z)) :
    Calls Tryz.prog 3 #[.int .i64 p, v] w fun e w' => e = .returned (.bool true) ∧ Below w.heap.size w w' := by
  obtain ⟨T, hT⟩ : ∃ T, T = Z.take 34 := ⟨_, rfl⟩
  have hTl : T.length ≤ 34 := by rw [hT, List.length_take]; omega
  have HT := Lib.hid hT
  go_enter Tryz.func3, Tryz.ntmps3
  go_wp2_with (fail)
  refine (own_is Z v w hv).mono ?_
  rintro e w1 ⟨⟨v1, rfl, hN⟩, hB⟩
  rw [← hT] at hN
  have HB1 := Lib.hid hB
  have HR1 : Hid (Rd w1 v1 1 T.length (zs T)) := hN.rd
  obtain ⟨a1, c1, hv1⟩ := hN.rd.shape
  subst hv1
  clear hN hB hT
  by_cases hok : Args1 p T
  · obtain ⟨q, F, rfl, hF, hP, hq, hPol, hFl⟩ := of_args1 hok
    have HF : Hid (FieldI (q : Int)) := hok.1
    have HPB : Hid (polyB (q : Int) T = true) := hok.2 T (by simp)
    have HP := Lib.hid hP
    have HPol := Lib.hid hPol
    have hTF : T.length = F.length := by rw [hF, up_length]
    have HRF : Hid (Rd w1 (.slice a1 T.length c1) 1 F.length (nats F)) := by
      have := HR1.out; rw [hF] at this ⊢; rw [up_length, zs_up] at this; rw [up_length]; exact this
    have HTF := Lib.hid hTF
    obtain ⟨t, ht⟩ : ∃ t, t = Q.irredP q F := ⟨_, rfl⟩
    have HTI : Hid (Q.Irr q F ↔ t = true) := by show _ ↔ _; rw [ht]; exact (Q.irr_iff hP hPol).symm
    have HTE := Lib.hid ht
    clear hF hok hP hPol hTF ht
    by_cases h0 : F.length = 0
    · have hT0 : T.length = 0 := by rw [HTF.out]; exact h0
      have hd0 : ((T.length : Int) == 0) = true := by rw [hT0]; rfl
      have H0 := Lib.hid h0
      clear h0 hT0
      go_wp2_with (fail)
      refine (Factor_zero q F _ _ HP hq HRF HPol hFl H0).mono ?_
      rintro e w2 ⟨rfl, hB⟩
      have HB2 := Lib.hid (HB1.out.trans (hB.mono HB1.out.size))
      have HR2 : Hid (Rd w2 (.slice a1 T.length c1) 1 T.length (zs T)) := HR1.out.below hB (Nat.le_refl _)
      have HRF2 : Hid (Rd w2 (.slice a1 T.length c1) 1 F.length (nats F)) := HRF.out.below hB (Nat.le_refl _)
      clear hB
      go_wp2_with (fail)
      refine (Irreducible_ok q F _ _ HP hq HRF2 HPol hFl).mono ?_
      rintro e w3 ⟨rfl, hB⟩
      rw [← HTE.out]
      have HB3 := Lib.hid (HB2.out.trans (hB.mono HB2.out.size))
      have HR3 : Hid (Rd w3 (.slice a1 T.length c1) 1 T.length (zs T)) := HR2.out.below hB (Nat.le_refl _)
      have HRF3 : Hid (Rd w3 (.slice a1 T.length c1) 1 F.length (nats F)) := HRF2.out.below hB (Nat.le_refl _)
      clear hB
      go_wp2_with (fail)
      refine (rField_is (q : Int) true _ ⟨fun _ => rfl, fun _ => HF.out⟩).mono ?_
      rintro e w4 ⟨rfl, rfl⟩
      go_wp2_with (fail)
      refine (rPoly_is (q : Int) _ T true _ HR3 (by omega) HPB).mono ?_
      rintro e w4 ⟨rfl, rfl⟩
      go_wp2_with (fail)
      refine (rIrr_is q F _ t _ HP hq HRF3 HPol (by omega) HTI).mono ?_
      rintro e w4 ⟨rfl, hB⟩
      have HB4 := Lib.hid (HB3.out.trans (hB.mono HB3.out.size))
      clear hB
      go_wp2_with (fail)
      refine (awake_is _).mono ?_
      rintro e w5 ⟨rfl, hB⟩
      have HB5 := Lib.hid (HB4.out.trans (hB.mono HB4.out.size))
      clear hB
      go_wp2_with (fail)
      go_ret
      exact ⟨rfl, HB5.out⟩
    · have hT0 : T.length ≠ 0 := by rw [HTF.out]; exact h0
      have hd0 : ((T.length : Int) == 0) = false := by rw [beq_eq_false_iff_ne]; omega
      go_wp2_with (fail)
      refine (Factor_ok q F _ _ HP hq HRF HPol hFl h0).mono ?_
      rintro e w2 ⟨v2, L, fin, rfl, hFc, hfin, hperm, hs⟩
      have hB := hFc.below
      obtain ⟨l, hl⟩ := Q.facL_of HP.out HPol.out h0 (by omega) hfin hperm hs
      have HB2 := Lib.hid (HB1.out.trans (hB.mono HB1.out.size))
      have HR2 : Hid (Rd w2 (.slice a1 T.length c1) 1 T.length (zs T)) := HR1.out.below hB (Nat.le_refl _)
      have HRF2 : Hid (Rd w2 (.slice a1 T.length c1) 1 F.length (nats F)) := HRF.out.below hB (Nat.le_refl _)
      have hr1 := RdFac.of hFc
      obtain ⟨bl, dl, hvl, hdl⟩ := hr1.shape
      subst hvl
      obtain ⟨r, hr⟩ : ∃ r, r = L.length := ⟨_, rfl⟩
      rw [← hr] at hr1 hdl ⊢
      have HLR := Lib.hid hr
      have HFL2 := Lib.hid hr1
      have HRL := Lib.hid (hl.ref HP.out HPol.out h0 (Nat.le_refl _))
      have HSM : Hid (∀ x ∈ strip L, x.1.length ≤ 33 ∧ x.2 ≤ 33) := fun x hx => by
        obtain ⟨i, hi', rfl⟩ := List.getElem_of_mem hx
        have h9 := hl.small HP.out HPol.out h0 i hi'
        exact ⟨by omega, by omega⟩
      have hrl : r ≤ 33 := by
        have h9 := hl.len HP.out HPol.out h0
        rw [strip, List.length_map] at h9
        omega
      have HLI := Lib.hid hl.irr
      have HLE := Lib.hid (hl.monVal HP.out HPol.out h0)
      have hmon := Q.monic_is HP.out HPol.out h0
      obtain ⟨M, hM⟩ : ∃ M, M = Q.monicP q F := ⟨_, rfl⟩
      rw [← hM] at hmon HLE HRL
      have HMP : Hid (Q.Pol q M) := hmon.1
      have HMM : Hid (Q.Mon M) := hmon.2.1
      have HML : Hid (M.length ≤ F.length) := by show _ ≤ _; rw [hmon.2.2.1]; exact Nat.le_refl _
      have hMl : M.length ≤ 900 := by have := HML.out; omega
      have HME := Lib.hid hM
      obtain ⟨x, hx⟩ : ∃ x, x = F.getD (F.length - 1) 0 := ⟨_, rfl⟩
      rw [← hx]
      have HX : Hid (∀ W, Below w2.heap.size w2 W → ∃ b, a1 = some ⟨b, 0, none⟩ ∧ W.cell? ⟨b, T.length - 1, none⟩ = some (.int .i64 (x : Int))) := fun W hW => by
        obtain ⟨b, h8, _, h9⟩ := (HRF2.out.below hW (Nat.le_refl _)).at (F.length - 1) (by omega)
        exact ⟨b, h8, by rw [HTF.out, hx]; exact h9⟩
      clear hB hFc hfin hperm hs hl hr1 hr hmon hM hx
      go_wp2_with (fail)
      refine (Irreducible_ok q F _ _ HP hq HRF2 HPol hFl).mono ?_
      rintro e w3 ⟨rfl, hB⟩
      rw [← HTE.out]
      have HB23 := Lib.hid hB
      have HB3 := Lib.hid (HB2.out.trans (hB.mono HB2.out.size))
      have HR3 : Hid (Rd w3 (.slice a1 T.length c1) 1 T.length (zs T)) := HR2.out.below hB (Nat.le_refl _)
      have HRF3 : Hid (Rd w3 (.slice a1 T.length c1) 1 F.length (nats F)) := HRF2.out.below hB (Nat.le_refl _)
      clear hB
      go_wp2_with (fail)
      refine (rField_is (q : Int) true _ ⟨fun _ => rfl, fun _ => HF.out⟩).mono ?_
      rintro e w4 ⟨rfl, rfl⟩
      go_wp2_with (fail)
      refine (rPoly_is (q : Int) _ T true _ HR3 (by omega) HPB).mono ?_
      rintro e w4 ⟨rfl, rfl⟩
      go_wp2_with (fail)
      refine (rIrr_is q F _ t _ HP hq HRF3 HPol (by omega) HTI).mono ?_
      rintro e w4 ⟨rfl, hB⟩
      have HB24 := Lib.hid (HB23.out.trans (hB.mono HB23.out.size))
      have HB4 := Lib.hid (HB3.out.trans (hB.mono HB3.out.size))
      have HRF4 : Hid (Rd w4 (.slice a1 T.length c1) 1 F.length (nats F)) := HRF3.out.below hB (Nat.le_refl _)
      clear hB
      go_wp2_with (fail)
      refine (rMonic_is q F _ _ HP hq HRF4 HPol (by omega)).mono ?_
      rintro e w5 ⟨⟨v5, rfl, hN5⟩, hB⟩
      rw [← HME.out] at hN5
      have HRM : Hid (Rd w5 v5 1 M.length (nats M)) := hN5.rd
      have HB25 := Lib.hid (HB24.out.trans (hB.mono HB24.out.size))
      have HB5 := Lib.hid (HB4.out.trans (hB.mono HB4.out.size))
      obtain ⟨a5, c5, hv5⟩ := hN5.rd.shape
      subst hv5
      clear hB hN5
      go_wp2_with (fail)
      refine (rfactor_is q HP hq F.length M l (strip L) _ _ HRM HMP HMM HML hMl HLI HLE HRL).mono ?_
      rintro e w6 ⟨⟨v6, L6, rfl, hF6, hS6⟩, hB⟩
      have HB26 := Lib.hid (HB25.out.trans (hB.mono HB25.out.size))
      have HB6 := Lib.hid (HB5.out.trans (hB.mono HB5.out.size))
      obtain ⟨a6, c6, hv6, hc66⟩ := hF6.shape
      subst hv6
      have hr6 : L6.length = r := by rw [hF6.slen hS6, HLR.out, strip, List.length_map]
      rw [hr6] at hF6 hc66 ⊢
      have HF6 := Lib.hid hF6
      have HS6 := Lib.hid hS6
      have HLR6 := Lib.hid hr6
      have HFL6 : Hid (RdFac w6 (.slice bl r dl) L) := HFL2.out.below HB26.out
      obtain ⟨bb, hbb, hcx⟩ := HX.out w6 HB26.out
      subst hbb
      have hT1 : (T.length : Int) - 1 = ((T.length - 1 : Nat) : Int) := by omega
      have hT2 : ((T.length - 1 : Nat) : Int) < (T.length : Int) := by omega
      have HBz : Hid (Below w6.heap.size w6 w6) := Below.refl _ _
      clear hB hF6 hS6 hr6
      go_wp2_with (fail)
      go_loopw [11] (fun iv wx => ∃ (k : Nat), iv = .int .i64 k ∧ k ≤ r ∧ Hid (Below w6.heap.size w6 wx)) (fun iv _ => r - (intOf iv).toNat)
      case atStart => exact ⟨0, rfl, by omega, HBz⟩
      case round =>
        obtain ⟨k, rfl, hk, HBk⟩ := hrel
        by_cases hkr : k < r
        · have hkL : k < L.length := by rw [← HLR.out]; exact hkr
          have hkL6 : k < L6.length := by rw [HLR6.out]; exact hkr
          obtain ⟨b2, x2, y2, hf2⟩ := HFL6.out.at k hkL
          obtain ⟨b6, x6, y6, hf6⟩ := HF6.out.at k hkL6
          have hS : (strip L)[k]'(by simpa [strip] using hkL) = (strip L6)[k]'(by simpa [strip] using hkL6) := by simp [HS6.out]
          simp only [strip, List.getElem_map] at hS
          have hS1 : L[k].2.1 = L6[k].2.1 := congrArg Prod.fst hS
          have hS2 : L[k].2.2 = L6[k].2.2 := congrArg Prod.snd hS
          have hfe2 := hf2.eq
          have hfe6 := hf6.eq
          subst hfe2 hfe6
          obtain ⟨P, hPe⟩ : ∃ P, P = L[k].2.1 := ⟨_, rfl⟩
          obtain ⟨ex, hex⟩ : ∃ ex, ex = L[k].2.2 := ⟨_, rfl⟩
          have hPl : P.length ≤ 33 := by
            have := (HSM.out ((strip L)[k]'(by simpa [strip] using hkL)) (List.getElem_mem _)).1
            simp only [strip, List.getElem_map] at this
            rw [hPe]; exact this
          have HC : Hid (∀ W, Below wr.heap.size wr W → W.cell? ⟨b2, k * 2, none⟩ = some (.slice x2 P.length y2) ∧ W.cell? ⟨b2, k * 2 + 1, none⟩ = some (.int .i64 (ex : Int)) ∧ W.cell? ⟨b6, k * 2, none⟩ = some (.slice x6 P.length y6) ∧ W.cell? ⟨b6, k * 2 + 1, none⟩ = some (.int .i64 (ex : Int))) := fun W hW => by
            have hB := HBk.out.trans (hW.mono HBk.out.size)
            refine ⟨?_, ?_, ?_, ?_⟩
            · rw [hB.cell (p := ⟨b2, k * 2, none⟩) hf2.lt, hPe]; exact hf2.c0
            · rw [hB.cell (p := ⟨b2, k * 2 + 1, none⟩) hf2.lt, hex]; exact hf2.c1
            · rw [hB.cell (p := ⟨b6, k * 2, none⟩) hf6.lt, hPe, hS1]; exact hf6.c0
            · rw [hB.cell (p := ⟨b6, k * 2 + 1, none⟩) hf6.lt, hex, hS2]; exact hf6.c1
          have HRA : ∀ W, Below wr.heap.size wr W → Hid (Rd W (.slice x2 P.length y2) 1 P.length (nats P)) := fun W hW => by
            have hB := HBk.out.trans (hW.mono HBk.out.size)
            have := hf2.rd.below hB (Nat.le_refl _)
            rw [← hPe] at this; exact this
          have HRB : ∀ W, Below wr.heap.size wr W → Hid (Rd W (.slice x6 P.length y6) 1 P.length (nats P)) := fun W hW => by
            have hB := HBk.out.trans (hW.mono HBk.out.size)
            have := hf6.rd.below hB (Nat.le_refl _)
            rw [← hS1, ← hPe] at this; exact this
          obtain ⟨d1, d2, d3, d4⟩ := HC.out wr (Below.refl _ _)
          have hkr1 : (k : Int) < (r : Int) := by omega
          clear hf2 hf6 hS hS1 hS2 hPe hex
          go_wp2_with (fail)
          go_region_held3 (fun w' => w'.cell? ⟨b2, k * 2, none⟩ = some (.slice x2 P.length y2) ∧ w'.cell? ⟨b2, k * 2 + 1, none⟩ = some (.int .i64 (ex : Int)) ∧ w'.cell? ⟨b6, k * 2, none⟩ = some (.slice x6 P.length y6) ∧ w'.cell? ⟨b6, k * 2 + 1, none⟩ = some (.int .i64 (ex : Int))) (go_keep)
            ((go_at_call 13; refine (Same_is P P _ _ true _ (HRA _ (by first | exact (Below.refl _ _).drew | exact below_drewN (Below.refl _ _) _ | exact Below.refl _ _)) (HRB _ (by first | exact (Below.refl _ _).drew | exact below_drewN (Below.refl _ _) _ | exact Below.refl _ _)) (by omega) (by omega) ⟨fun _ => rfl, fun _ => rfl⟩).mono ?_; rintro z w7 ⟨rfl, nn, rfl⟩))
          go_wp2_with (fail)
          go_roundw
          case rel => exact ⟨k + 1, by go_num, by omega, below_drewN HBk.out _⟩
          case measure => simp [intOf]; omega
        · have hkr1 : ¬ (k : Int) < (r : Int) := by omega
          have HBe := Lib.hid (HB6.out.trans (HBk.out.mono HB6.out.size))
          clear hkr
          go_wp2_with (fail)
          refine (awake_is _).mono ?_
          rintro e w8 ⟨rfl, hB⟩
          have HB8 := Lib.hid (HBe.out.trans (hB.mono HBe.out.size))
          clear hB
          go_wp2_with (fail)
          go_ret
          exact ⟨rfl, HB8.out⟩
  · have HN := Lib.hid hok
    clear hok
    go_wp2_with (fail)
    refine (Factor_arg p T _ _ HR1 (by omega) HN).mono ?_
    rintro e w2 ⟨rfl, hB⟩
    have HB2 := Lib.hid (HB1.out.trans (hB.mono HB1.out.size))
    have HR2 : Hid (Rd w2 (.slice a1 T.length c1) 1 T.length (zs T)) := HR1.out.below hB (Nat.le_refl _)
    clear hB
    go_wp2_with (fail)
    refine (Irreducible_arg p T _ _ HR2 (by omega) HN).mono ?_
    rintro e w3 ⟨rfl, hB⟩
    have HB3 := Lib.hid (HB2.out.trans (hB.mono HB2.out.size))
    have HR3 : Hid (Rd w3 (.slice a1 T.length c1) 1 T.length (zs T)) := HR2.out.below hB (Nat.le_refl _)
    clear hB
    by_cases hf : FieldI p
    · have HF := Lib.hid hf
      have hpb : polyB p T = false := by
        cases h : polyB p T with
        | false => rfl
        | true => exact absurd ⟨hf, fun Y hY => by simp at hY; subst hY; exact h⟩ HN.out
      have HPB := Lib.hid hpb
      clear hf hpb
      go_wp2_with (fail)
      refine (rField_is p true _ ⟨fun _ => rfl, fun _ => HF.out⟩).mono ?_
      rintro e w4 ⟨rfl, rfl⟩
      go_wp2_with (fail)
      refine (rPoly_is p _ T false _ HR3 (by omega) HPB).mono ?_
      rintro e w4 ⟨rfl, rfl⟩
      go_wp2_with (fail)
      refine (awake_is _).mono ?_
      rintro e w4 ⟨rfl, hB⟩
      have HB4 := Lib.hid (HB3.out.trans (hB.mono HB3.out.size))
      clear hB
      go_wp2_with (fail)
      go_ret
      exact ⟨rfl, HB4.out⟩
    · have HF := Lib.hid hf
      clear hf
      go_wp2_with (fail)
      refine (rField_is p false _ ⟨fun h => absurd h HF.out, fun h => by cases h⟩).mono ?_
      rintro e w4 ⟨rfl, rfl⟩
      go_wp2_with (fail)
      refine (awake_is _).mono ?_
      rintro e w4 ⟨rfl, hB⟩
      have HB4 := Lib.hid (HB3.out.trans (hB.mono HB3.out.size))
      clear hB
      go_wp2_with (fail)
      go_ret
      exact ⟨rfl, HB4.out⟩

set_option maxRecDepth 100000 in
theorem lifted (os : Os) (started : os.Started) (H : Type) (enc : TypeId × Value → H) :
    ReturnsInHanded {} Tryz.checked os 3 .any (Rows.polyFactorsSpec.pre6 enc Tryz.prog Tryz.f3 Rows.polyFactorsRow.domain false) (Rows.polyFactorsSpec.post enc Tryz.prog Tryz.f3 false true false false) := by
  refine returnsInHanded_of_change (C := Tryz.checked) own started (by kernel_rfl) Tryz.func3
    (ChangeSpec.witness6 (enc := enc) (C := Tryz.checked) false ⟨#[], #[.int .i64 0, .slice none 0 0], []⟩ 8 (by kernel_rfl) (by kernel_rfl) (by kernel_rfl) (by kernel_rfl)) ?_
  intro W base args ds gs before hval0 hW hcnd _
  have hval : ∀ (j : Nat) t v, Tryz.f3.params[j]? = some t → args[j]? = some v → Value.okWide Tryz.prog W .any base t v := hval0
  have hW' := hW
  obtain ⟨p, q, hA0, hV, rfl, hfz, hnd⟩ := hW
  have hA : DataW.TrodAll enc Tryz.prog W 0 (fun _ => true) true Tryz.f3.params.toList args.toList ds p := hA0
  rw [Tryz.params3] at hA hval
  obtain ⟨v0, vs0, d0, ds0, p0, q0, hargs, rfl, rfl, h0, r0⟩ := trodAll_cons hA
  obtain ⟨v1, vs1, d1, ds1, p1, q1, rfl, rfl, rfl, h1, r1⟩ := trodAll_cons r0
  obtain ⟨rfl, rfl, rfl⟩ := trodAll_nil r1
  obtain rfl : args = #[v0, v1] := by cases args; simp_all
  obtain ⟨rfl, rfl⟩ := trodVars_none hV
  have hlt := hW'.lt
  obtain ⟨a0, rfl, rfl, rfl, w0⟩ := open_int Tryz.underlying3 (hval 0 3 v0 rfl rfl) h0
  obtain ⟨Z1, hZ1⟩ := argI_of (hval 1 22 v1 rfl rfl) h1
  clear hA0 hval0
  simp only [List.append_nil] at hW'
  refine (walk a0 v1 Z1 W hZ1).mono fun e W' ⟨he, hg⟩ => ?_
  subst he
  exact ⟨_, rfl, _, _, _, [], [] ++ (p1 ++ ([])), [], hW', trodAll_cons_mk (shut_bool Tryz.underlying4 _) trodAll_mk0, trodAll_cons_mk (shut_int Tryz.underlying3 w0) (trodAll_cons_mk (Below.trod (by kernel_rfl) (by kernel_rfl) (by decide +kernel) h1 hg (fun x hx => hlt x (by simp [hx]))) trodAll_mk0), rfl, hg.frame _, fun h => by cases h⟩

theorem over : Rows.polyFactorsRow.holds Tryz.pinned (OpenSpec.ofChange Rows.polyFactorsSpec) :=
  OpenClaim.holds_of_wide 3 Tryz.f3 rfl rfl rfl rfl rfl rfl rfl ⟨rfl, rfl, rfl, rfl, rfl⟩ rfl rfl rfl rfl rfl (by kernel_rfl) Tryz.func3 (by kernel_rfl)
    (of_decide_eq_true (by kernel_rfl)) (by unfold Func.isWrapper; first | (rw [if_pos (by decide +kernel)]; kernel_rfl) | (rw [if_neg (by decide +kernel)]; exact ⟨rfl, rfl⟩))
    (fun os started H enc _ => lifted os started H enc)

theorem proved : Rows.PolyFactorsSaid := over

end Go.Proofs.YtbehihanhfmmhaaGreat.polyFactors
