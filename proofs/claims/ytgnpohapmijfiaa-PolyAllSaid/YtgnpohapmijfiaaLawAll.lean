/- Over a small field Count is the number of monic polynomials of the degree that are irreducible, and First is the first one of them. No condition. -/
import Derived.Test.YtgnpohapmijfiaaG15
import Derived.Test.YtgnpohapmijfiaaG13
import Derived.Test.YtgnpohapmijfiaaG17
import Derived.ProofKit
import Derived.OpenShut
namespace Go.Proofs.Ytgnpohapmijfiaa.polyAll
open Go.ChangeShapes Go.WideShapes Go.ChangeAt Go.RowKit

theorem own : ownKnob Try.prog.godebug = none := by kernel_rfl


theorem pow_bd {P N i : Nat} (hP : P ≤ 7) (hN : N ≤ 6) (hi : i ≤ N) (_h1 : 1 ≤ P) : P ^ i ≤ 117649 :=
  Nat.le_trans (Nat.pow_le_pow_left hP i) (Nat.le_trans (Nat.pow_le_pow_right (by omega) (show i ≤ 6 by omega)) (by decide))

set_option maxRecDepth 100000 in
set_option maxHeartbeats 8000000 in
theorem walk (p n0 : Int) (w : World) :
    Calls Try.prog 16 #[.int .i64 p, .int .i64 n0] w fun e w' => e = .returned (.bool true) ∧ Below w.heap.size w w' := by
  have hb4 := modv_bd p 4 (by omega)
  have hb6 := modv_bd n0 6 (by omega)
  obtain ⟨m4, hm4⟩ : ∃ m, m = modv p 4 := ⟨_, rfl⟩
  obtain ⟨J, hJ⟩ := Int.eq_ofNat_of_zero_le hb6.1
  rw [hJ] at hb6
  rw [← hm4] at hb4
  have HM4 := Lib.hid hm4
  have HJ := Lib.hid hJ
  clear hm4 hJ
  have hcase : m4 = 0 ∨ m4 = 1 ∨ m4 = 2 ∨ m4 = 3 := by omega
  obtain ⟨P, hP4, hx⟩ : ∃ P : Nat, (P = 2 ∨ P = 3 ∨ P = 5 ∨ P = 7) ∧ ∀ W : World, (Instr.index 67 (.agg #[.int .i64 2, .int .i64 3, .int .i64 5, .int .i64 7]) (.int .i64 m4)).run Try.prog W = .ok (.int .i64 (P : Int)) W := by
    rcases hcase with h | h | h | h <;> rw [h]
    · exact ⟨2, by simp, fun W => by simp [Instr.index, run_underlying Try.underlying67, asIntOf, go_sem]⟩
    · exact ⟨3, by simp, fun W => by simp [Instr.index, run_underlying Try.underlying67, asIntOf, go_sem]⟩
    · exact ⟨5, by simp, fun W => by simp [Instr.index, run_underlying Try.underlying67, asIntOf, go_sem]⟩
    · exact ⟨7, by simp, fun W => by simp [Instr.index, run_underlying Try.underlying67, asIntOf, go_sem]⟩
  have HP : Hid (M.Pr P) := by
    rcases hP4 with h | h | h | h <;> rw [h]
    · exact Q.pr_small (by omega) (by decide +kernel)
    · exact Q.pr_small (by omega) (by decide +kernel)
    · exact Q.pr_small (by omega) (by decide +kernel)
    · exact Q.pr_small (by omega) (by decide +kernel)
  have hP7 : P ≤ 7 := by omega
  have hp2 : 2 ≤ P := by omega
  have HP4 := Lib.hid hP4
  obtain ⟨N, hN⟩ : ∃ N, N = J + 1 := ⟨_, rfl⟩
  have hN1 : (1 : Int) + (J : Int) = (N : Int) := by omega
  have hN2 : 1 ≤ N := by omega
  have hN6 : N ≤ 6 := by omega
  have HN := Lib.hid hN
  obtain ⟨i0, hi0, hz0, hz1, hz2⟩ := info_parts Try.infoZ
  have hzp : ((P : Int) == 0) = false := by simp; omega
  clear hcase hP4 hN hb4
  go_enter Try.func16, Try.ntmps16
  go_wp2_with (fail)
  refine (mod_is p 4 _ (by omega) (by omega)).mono ?_
  rintro e w' ⟨rfl, rfl⟩
  rw [← HM4.out]
  go_wp2_with (fail)
  refine (mod_is n0 6 _ (by omega) (by omega)).mono ?_
  rintro e w' ⟨rfl, rfl⟩
  rw [HJ.out]
  go_wp2_with (fail)
  go_loop [5, 6] (fun yv iv => ∃ (i y : Nat), yv = .int .i64 y ∧ iv = .int .i64 i ∧ i ≤ N ∧ y ≤ 117649 ∧ Hid (y = P ^ i)) (fun _ iv => N - (intOf iv).toNat)
  case atStart => exact ⟨0, 1, rfl, rfl, by omega, by omega, rfl⟩
  case round =>
    obtain ⟨i, y, rfl, rfl, hi, hy, HY⟩ := hrel
    by_cases hlt : i < N
    · have hyp : y * P ≤ 117649 := by rw [HY.out, ← Nat.pow_succ]; exact pow_bd hP7 hN6 (by omega) (by omega)
      have hb2 : (0 : Int) ≤ (y : Int) * (P : Int) ∧ (y : Int) * (P : Int) ≤ 117649 := by
        have h : (y : Int) * (P : Int) = ((y * P : Nat) : Int) := by simp
        omega
      have HY2 : Hid (y * P = P ^ (i + 1)) := by show _ = _; rw [HY.out, Nat.pow_succ]
      go_wp2_with (fail)
      go_round
      case rel => exact ⟨i + 1, y * P, by first | go_num | simp, by go_num, by omega, hyp, HY2⟩
      case measure => simp [intOf]; omega
    · have hiN : i = N := by omega
      have HYN : Hid (y = P ^ N) := by rw [← hiN]; exact HY.out
      have hlt2 : ¬ ((i : Int) < (N : Int)) := by omega
      clear HY hiN
      by_cases hbig : 130 < y
      · have hd : decide ((130 : Int) < (y : Int)) = true := by rw [decide_eq_true_iff]; omega
        have HBR : Hid (Below w.heap.size w w) := Below.refl _ _
        clear hbig
        go_wp2_with (fail)
        refine (awake_is _).mono ?_
        rintro e w9 ⟨rfl, hB⟩
        have HB9 := Lib.hid (HBR.out.trans (hB.mono HBR.out.size))
        clear hB
        go_wp2_with (fail)
        go_ret
        exact ⟨rfl, HB9.out⟩
      · have hd : decide ((130 : Int) < (y : Int)) = false := by rw [decide_eq_false_iff_not]; omega
        obtain ⟨T, res, A⟩ := Q.all_is HP4.out hN2 hN6 (by rw [← HYN.out]; omega)
        have HA := Lib.hid A
        have HFO : Hid (Q.FirstOk P res 130 (List.replicate N 0 ++ [1])) := A.first
        have HSC0 : Hid (Q.scanB P N res (y - 0) 0 0 = some T) := by show _ = _; rw [Nat.sub_zero, HYN.out]; exact A.scan
        have hrl : res.length ≤ 33 := by rw [A.len]; omega
        have hy130 : y ≤ 130 := by omega
        clear A hbig
        go_wp2_with (fail)
        refine (First_ok P N 130 res _ HP (by omega) hN2 (by omega) HFO).mono ?_
        rintro e w1 ⟨⟨vr, rfl, hNr⟩, hB1⟩
        have HB1 := Lib.hid hB1
        have HRR : Hid (Rd w1 vr 1 res.length (nats res)) := hNr.rd
        obtain ⟨ar, cr, hvr⟩ := hNr.rd.shape
        subst hvr
        clear hNr hB1
        go_wp2_with (fail)
        go_loopw [7, 10] (fun cv kv wx => ∃ (c k : Nat), cv = .int .i64 c ∧ kv = .int .i64 k ∧ k ≤ y ∧ c ≤ k ∧ Hid (Q.scanB P N res (y - k) k c = some T) ∧ Hid (Below w1.heap.size w1 wx)) (fun _ kv _ => y - (intOf kv).toNat)
        case atStart => exact ⟨0, 0, rfl, rfl, by omega, by omega, HSC0, Below.refl _ _⟩
        case round =>
          obtain ⟨c, k, rfl, rfl, hk, hck, HSC, HBk⟩ := hrel
          by_cases hky : k < y
          · have hNN : (N : Int) < (N : Int) + 1 := by omega
            go_wp2_with (at_make; refine wpList_make_full _ rfl _ _ 22 rfl w1.heap.size 3 i0 (.int .i64 0) 1 Try.underlying22 hi0 hz0 hz1 .i64 .i64 _ _ (N + 1) rfl rfl rfl rfl (by rw [hz2]; omega) (by unfold maxLen; omega) HBk.out.size ?_)
            intro w2 hown2 hgrow2
            obtain ⟨g, hg⟩ : ∃ g, g = wr.heap.size := ⟨_, rfl⟩
            have HS2 : Hid (RSt w1 w2 g (N + 1) (N + 1) (List.replicate (N + 1) 0)) := by
              refine ⟨?_, HBk.out.trans ((below_of_grown hgrow2).mono HBk.out.size)⟩
              rw [← nats_zeros, hg]; exact hown2
            have d1 := HS2.out.cell (Nat.lt_succ_self N)
            have d2 := HS2.out.free N
            have HS3 : Hid (RSt w1 (w2.setCell ⟨g, N, none⟩ (.int .i64 1)) g (N + 1) (N + 1) (Q.digS P N k 0)) := by
              have h1 := HS2.out.set N 1
              rw [Q.rep_set] at h1
              exact h1
            have HR0 : Hid (k = k / P ^ 0) := by show _ = _; simp
            rw [← hg]
            clear hown2 hgrow2 hg
            go_wp2_with (fail)
            go_loopw [12, 13] (fun iv rv wx => ∃ (i r : Nat), iv = .int .i64 i ∧ rv = .int .i64 r ∧ i ≤ N ∧ r ≤ k ∧ Hid (r = k / P ^ i) ∧ Hid (RSt w1 wx g (N + 1) (N + 1) (Q.digS P N k i))) (fun iv _ _ => N - (intOf iv).toNat)
            case atStart => exact ⟨0, k, rfl, rfl, by omega, by omega, HR0, HS3⟩
            case round =>
              obtain ⟨i, r, rfl, rfl, hi, hr, HR, HS⟩ := hrel
              by_cases hiN : i < N
              · have e1 := HS.out.cell (show i < N + 1 by omega)
                have e2 := HS.out.free i
                obtain ⟨z, hz⟩ : ∃ z, z = r % P := ⟨_, rfl⟩
                obtain ⟨r2, hr2⟩ : ∃ r2, r2 = r / P := ⟨_, rfl⟩
                have HSn : Hid (RSt w1 (wr.setCell ⟨g, i, none⟩ (.int .i64 (z : Int))) g (N + 1) (N + 1) (Q.digS P N k (i + 1))) := by
                  have h := HS.out.set i z
                  rw [hz, HR.out] at h
                  rw [hz, HR.out]; exact h
                have HRn : Hid (r2 = k / P ^ (i + 1)) := by show _ = _; rw [hr2, HR.out, Nat.div_div_eq_div_mul, Nat.pow_succ]
                have hr2k : r2 ≤ k := by rw [hr2]; exact Nat.le_trans (Nat.div_le_self _ _) hr
                have q1 : (r : Int) % (P : Int) = (z : Int) := by rw [hz]; rfl
                have q2 : (r : Int) / (P : Int) = (r2 : Int) := by rw [hr2]; rfl
                have q3 : (r : Int).tmod (P : Int) = (z : Int) := by rw [hz]; rfl
                have q4 : (r : Int).tdiv (P : Int) = (r2 : Int) := by rw [hr2]; rfl
                have hil : (i : Int) < (N : Int) + 1 := by omega
                clear hz hr2 HS HR
                go_wp2_with (fail)
                go_roundw
                case rel => exact ⟨i + 1, r2, by go_num, rfl, by omega, hr2k, HRn, HSn⟩
                case measure => simp [intOf]; omega
              · have hiN2 : i = N := by omega
                subst hiN2
                obtain ⟨D, hD⟩ : ∃ D, D = Q.dig P i k := ⟨_, rfl⟩
                have HDP : Hid (Q.Pol P D) := by rw [hD]; exact (Q.dig_pol hp2 i k).1
                have hDl : D.length = i + 1 := by rw [hD]; exact (Q.dig_pol hp2 i k).2
                have HSD : Hid (RSt w1 wr g (i + 1) (i + 1) D) := by rw [hD]; exact HS.out
                have HRD : Hid (Rd wr (.slice (some ⟨g, 0, none⟩) (i + 1) (i + 1)) 1 D.length (nats D)) := HSD.out.new.rd
                have HBr : Hid (Below w1.heap.size w1 wr) := HSD.out.below
                have hDl2 : D.length ≤ 33 := by omega
                obtain ⟨mm, hmm⟩ : ∃ mm, y - k = mm + 1 := ⟨y - k - 1, by omega⟩
                have hsc : (if Q.irredP P D then (if c = 0 ∧ D ≠ res then none else Q.scanB P i res mm (k + 1) (c + 1)) else Q.scanB P i res mm (k + 1) c) = some T := by
                  have h := HSC.out
                  rw [hmm, Q.scanB, ← hD] at h; exact h
                have hmm2 : y - (k + 1) = mm := by omega
                rw [← hmm2] at hsc
                cases hirr : Q.irredP P D with
                | false =>
                  have HIRR := Lib.hid hirr
                  rw [hirr] at hsc
                  have HSC2 : Hid (Q.scanB P i res (y - (k + 1)) (k + 1) c = some T) := by show _ = _; simpa using hsc
                  clear hsc hD hirr HS HR hmm hmm2 hDl
                  go_wp2_with (fail)
                  refine (Irreducible_ok P D _ _ HP (by omega) HRD HDP hDl2).mono ?_
                  rw [HIRR.out]
                  rintro e w4 ⟨rfl, hB4⟩
                  have HB4 := Lib.hid (HBr.out.trans (hB4.mono HBr.out.size))
                  clear hB4
                  go_wp2_with (fail)
                  go_roundw
                  case rel => exact ⟨c, k + 1, rfl, by go_num, by omega, by omega, HSC2, HB4⟩
                  case measure => simp [intOf]; omega
                | true =>
                  have HIRR := Lib.hid hirr
                  rw [hirr] at hsc
                  by_cases hc0 : c = 0
                  · have hDres : D = res := Classical.byContradiction fun hne => by simp [hc0, hne] at hsc
                    have HSC2 : Hid (Q.scanB P i res (y - (k + 1)) (k + 1) (c + 1) = some T) := by show _ = _; simpa [hDres] using hsc
                    have HDR := Lib.hid hDres
                    have hcz : ((c : Int) == 0) = true := by simp [hc0]
                    clear hsc hD hirr HS HR hmm hmm2 hDl hDres hc0
                    go_wp2_with (fail)
                    refine (Irreducible_ok P D _ _ HP (by omega) HRD HDP hDl2).mono ?_
                    rw [HIRR.out]
                    rintro e w4 ⟨rfl, hB4⟩
                    have HRD4 : Hid (Rd w4 (.slice (some ⟨g, 0, none⟩) (i + 1) (i + 1)) 1 D.length (nats D)) := HRD.out.below hB4 (Nat.le_refl _)
                    have HB4 := Lib.hid (HBr.out.trans (hB4.mono HBr.out.size))
                    have HRR4 : Hid (Rd w4 (.slice ar res.length cr) 1 res.length (nats res)) := HRR.out.below HB4.out (Nat.le_refl _)
                    clear hB4
                    go_wp2_with (fail)
                    refine (Same_is res D _ _ true _ HRR4 HRD4 (by omega) (by omega) ⟨fun _ => rfl, fun _ => HDR.out.symm⟩).mono ?_
                    rintro e w5 ⟨rfl, nn, hw⟩
                    have HB5 : Hid (Below w1.heap.size w1 w5) := by rw [hw]; exact below_drewN HB4.out _
                    clear hw
                    go_wp2_with (fail)
                    go_roundw
                    case rel => exact ⟨c + 1, k + 1, by go_num, by go_num, by omega, by omega, HSC2, HB5⟩
                    case measure => simp [intOf]; omega
                  · have HSC2 : Hid (Q.scanB P i res (y - (k + 1)) (k + 1) (c + 1) = some T) := by show _ = _; simpa [hc0] using hsc
                    have hcz : ((c : Int) == 0) = false := by rw [beq_eq_false_iff_ne]; omega
                    clear hsc hD hirr HS HR hmm hmm2 hDl hc0
                    go_wp2_with (fail)
                    refine (Irreducible_ok P D _ _ HP (by omega) HRD HDP hDl2).mono ?_
                    rw [HIRR.out]
                    rintro e w4 ⟨rfl, hB4⟩
                    have HB4 := Lib.hid (HBr.out.trans (hB4.mono HBr.out.size))
                    clear hB4
                    go_wp2_with (fail)
                    go_roundw
                    case rel => exact ⟨c + 1, k + 1, by go_num, by go_num, by omega, by omega, HSC2, HB4⟩
                    case measure => simp [intOf]; omega
          · have hky2 : k = y := by omega
            subst hky2
            have hcT : c = T := by
              have h := HSC.out
              rw [Nat.sub_self, Q.scanB] at h
              injection h
            have HCT : Hid (Q.countP P N N = (c : Int)) := by show _ = _; rw [hcT]; exact HA.out.count
            have hpw : Hid (P ^ N ≤ 576460752303423488) := by show _ ≤ _; rw [← HYN.out]; omega
            have hcl : Hid (Q.countP P N N ≤ 9007199254740992) := by show _ ≤ _; rw [HCT.out]; omega
            clear hcT HSC
            go_wp2_with (fail)
            refine (Count_ok P N _ HP (by omega) hN2 (by omega) hpw hcl).mono ?_
            rw [HCT.out]
            rintro e w6 ⟨rfl, hB6⟩
            have HB6 := Lib.hid (HB1.out.trans ((HBk.out.trans (hB6.mono HBk.out.size)).mono HB1.out.size))
            clear hB6
            go_wp2_with (fail)
            refine (awake_is _).mono ?_
            rintro e w9 ⟨rfl, hB⟩
            have HB9 := Lib.hid (HB6.out.trans (hB.mono HB6.out.size))
            clear hB
            go_wp2_with (fail)
            go_ret
            exact ⟨rfl, HB9.out⟩


set_option maxRecDepth 100000 in
theorem lifted (os : Os) (started : os.Started) (H : Type) (enc : TypeId × Value → H) :
    ReturnsInHanded {} Try.checked os 16 .any (Rows.polyAllSpec.pre6 enc Try.prog Try.f16 Rows.polyAllRow.domain false) (Rows.polyAllSpec.post enc Try.prog Try.f16 false true false false) := by
  refine returnsInHanded_of_change (C := Try.checked) own started (by kernel_rfl) Try.func16
    (ChangeSpec.witness6 (enc := enc) (C := Try.checked) false ⟨#[], #[.int .i64 0, .int .i64 0], []⟩ 8 (by kernel_rfl) (by kernel_rfl) (by kernel_rfl) (by kernel_rfl)) ?_
  intro W base args ds gs before hval0 hW hcnd _
  have hval : ∀ (j : Nat) t v, Try.f16.params[j]? = some t → args[j]? = some v → Value.okWide Try.prog W .any base t v := hval0
  have hW' := hW
  obtain ⟨p, q, hA0, hV, rfl, hfz, hnd⟩ := hW
  have hA : DataW.TrodAll enc Try.prog W 0 (fun _ => true) true Try.f16.params.toList args.toList ds p := hA0
  rw [Try.params16] at hA hval
  obtain ⟨v0, vs0, d0, ds0, p0, q0, hargs, rfl, rfl, h0, r0⟩ := trodAll_cons hA
  obtain ⟨v1, vs1, d1, ds1, p1, q1, rfl, rfl, rfl, h1, r1⟩ := trodAll_cons r0
  obtain ⟨rfl, rfl, rfl⟩ := trodAll_nil r1
  obtain rfl : args = #[v0, v1] := by cases args; simp_all
  obtain ⟨rfl, rfl⟩ := trodVars_none hV
  have hlt := hW'.lt
  obtain ⟨a0, rfl, rfl, rfl, w0⟩ := open_int Try.underlying3 (hval 0 3 v0 rfl rfl) h0
  obtain ⟨a1, rfl, rfl, rfl, w1⟩ := open_int Try.underlying3 (hval 1 3 v1 rfl rfl) h1
  clear hA0 hval0
  simp only [List.append_nil] at hW'
  refine (walk a0 a1 W).mono fun e W' ⟨he, hg⟩ => ?_
  subst he
  exact ⟨_, rfl, _, _, _, [], [] ++ ([] ++ ([])), [], hW', trodAll_cons_mk (shut_bool Try.underlying4 _) trodAll_mk0, trodAll_cons_mk (shut_int Try.underlying3 w0) (trodAll_cons_mk (shut_int Try.underlying3 w1) trodAll_mk0), rfl, hg.frame _, fun h => by cases h⟩

theorem over : Rows.polyAllRow.holds Try.pinned (OpenSpec.ofChange Rows.polyAllSpec) :=
  OpenClaim.holds_of_wide 16 Try.f16 rfl rfl rfl rfl rfl rfl rfl ⟨rfl, rfl, rfl, rfl, rfl⟩ rfl rfl rfl rfl rfl (by kernel_rfl) Try.func16 (by kernel_rfl)
    (of_decide_eq_true (by kernel_rfl)) (by unfold Func.isWrapper; first | (rw [if_pos (by decide +kernel)]; kernel_rfl) | (rw [if_neg (by decide +kernel)]; exact ⟨rfl, rfl⟩))
    (fun os started H enc _ => lifted os started H enc)

theorem proved : Rows.PolyAllSaid := over

end Go.Proofs.Ytgnpohapmijfiaa.polyAll
