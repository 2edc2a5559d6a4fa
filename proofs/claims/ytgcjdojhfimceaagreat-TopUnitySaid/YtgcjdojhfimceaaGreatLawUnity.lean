/- Modulo a prime the polynomial x^k - 1 has as many different roots as the greatest common divisor of k and p - 1, and the roots are the elements whose order divides k. No condition. -/
import Derived.Test.YtgcjdojhfimceaaGreatG17
import Derived.ProofKit
import Derived.OpenShut
namespace Go.Proofs.YtgcjdojhfimceaaGreat.topUnity
open Go.ChangeShapes Go.WideShapes Go.ChangeAt Go.RowKit

theorem own : ownKnob Tryz.prog.godebug = none := by kernel_rfl

theorem list_of {w wr : World} {v : Value} {L : List FacE} (h : FcS w wr v L) : ∃ a c, v = .slice a L.length c ∧ (L.length = 0 ∨ ∃ b, a = some ⟨b, 0, none⟩ ∧ b < wr.heap.size ∧ ∀ j u, (flatF L)[j]? = some u → wr.cell? ⟨b, j, none⟩ = some u) := by
  obtain ⟨_, a, c, hv, _, hcl⟩ := Rd.of_own h.own
  exact ⟨a, c, hv, hcl⟩

/-- The linear ones among the first j. -/
def cnt (L : List FacE) (j : Nat) : Nat := ((strip (L.take j)).filter fun y => y.1.length == 2).length

theorem cnt_step (L : List FacE) (j : Nat) (h : j < L.length) : cnt L (j + 1) = cnt L j + if L[j].2.1.length = 2 then 1 else 0 := by
  unfold cnt strip
  rw [List.take_succ_eq_append_getElem h, List.map_append, List.filter_append, List.length_append]
  congr 1
  by_cases h2 : L[j].2.1.length = 2
  · simp [h2]
  · simp [h2]

set_option maxRecDepth 100000 in
set_option maxHeartbeats 2000000 in
theorem walk (n a : Int) (_wn : (Lit.int .i64 n).wf = true) (_wa : (Lit.int .i64 a).wf = true) (w : World) :
    Calls Tryz.prog 3 #[.int .i64 n, .int .i64 a] w fun x w' => x = .returned (.bool true) ∧ Below w.heap.size w w' := by
  obtain ⟨i0, hi, hz0, hz1, hz2⟩ := info_parts Tryz.infoZ
  go_enter Tryz.func3, Tryz.ntmps3
  go_wp2_with (fail)
  refine (odd_is n _).mono ?_
  rintro x w1 ⟨⟨p, rfl, hP', h3, hp2⟩, hB1⟩
  have hmb := modv_bd a 20 (by omega)
  obtain ⟨K0, hK⟩ := Int.eq_ofNat_of_zero_le hmb.1
  have hmod := Lib.hid hK
  have hP := Lib.hid hP'
  have HB1 := Lib.hid hB1
  have hK0 : K0 ≤ 19 := by omega
  obtain ⟨K, hKK⟩ : ∃ K, K = K0 + 1 := ⟨_, rfl⟩
  have hK1 : 1 ≤ K := by omega
  have hK2 : K ≤ 20 := by omega
  have hKI : (1 : Int) + (K0 : Int) = (K : Int) := by omega
  clear hB1 hP' hmb hK hKK hK0
  go_wp2_with (first
    | (go_at_call 5; refine (modT_is a 20 _ (by omega) (by omega)).mono ?_; rintro x w' ⟨rfl, rfl⟩; rw [hmod.out])
    | (at_make; refine wpList_make_full _ rfl _ _ 25 rfl w.heap.size 3 i0 (.int .i64 0) 1 Tryz.underlying25 hi hz0 hz1 .i64 .i64 _ _ (K + 1) rfl rfl rfl rfl (by rw [hz2]; omega) (by unfold maxLen; omega) HB1.out.size ?_))
  intro w2 hown2 hgrow2
  obtain ⟨g, hg⟩ : ∃ g, g = w1.heap.size := ⟨_, rfl⟩
  have HS2 : Hid (RSt w w2 g (K + 1) (K + 1) (List.replicate (K + 1) 0)) := by
    refine ⟨?_, HB1.out.trans ((below_of_grown hgrow2).mono HB1.out.size)⟩
    rw [← nats_zeros, hg]; exact hown2
  have d1 := HS2.out.cell (Nat.lt_succ_self K)
  have d2 := HS2.out.free K
  have HS3 : Hid (RSt w (w2.setCell ⟨g, K, none⟩ (.int .i64 1)) g (K + 1) (K + 1) ((List.replicate (K + 1) 0).set K 1)) := HS2.out.set K 1
  have d3 := HS3.out.cell (j := 0) (by omega)
  have d4 := HS3.out.free 0
  have HS4 : Hid (RSt w ((w2.setCell ⟨g, K, none⟩ (.int .i64 1)).setCell ⟨g, 0, none⟩ (.int .i64 ((p - 1 : Nat) : Int))) g (K + 1) (K + 1) (Q.uniF p K)) := by
    have := HS3.out.set 0 (p - 1)
    rw [Q.uniF_set hK1] at this
    exact this
  have hKK1 : (K : Int) < (K : Int) + 1 := by omega
  have hp1 : ((p - 1 : Nat) : Int) = (p : Int) - 1 := by omega
  rw [hp1] at HS4
  rw [← hg]
  clear hown2 hgrow2 hg hp1
  go_wp2_with (fail)
  have hrd4 := Lib.hid (Rd.of_own HS4.out.own)
  refine (Factor_un p K _ _ hP hp2 hK1 hK2 hrd4).mono ?_
  rintro x w5 ⟨v5, L, l, rfl, hf, hfl⟩
  have HB5 : Hid (Below w.heap.size w w5) := HS4.out.below.trans (hf.below.mono HS4.out.below.size)
  have hF5 : Hid (∀ w', Below w5.heap.size w5 w' → Rd w' (.slice (some ⟨g, 0, none⟩) (K + 1) (K + 1)) 1 (Q.uniF p K).length (nats (Q.uniF p K))) := fun w' h => by
    rw [Q.uniF_len hK1]
    exact (hrd4.out.below hf.below (Nat.le_refl _)).below h (Nat.le_refl _)
  obtain ⟨av, cv, rfl, hcl⟩ := list_of hf
  obtain ⟨ll, hll⟩ : ∃ ll, ll = L.length := ⟨_, rfl⟩
  have hlen : L.length ≤ 33 := by
    have := hfl.len hP.out (Q.uniF_pol hP.out.1 hK1) (by rw [Q.uniF_len hK1]; omega)
    rw [strip, List.length_map, Q.uniF_len hK1] at this; omega
  rw [← hll] at hcl hlen ⊢
  have HC := Lib.hid hcl
  have HF := Lib.hid hf
  have HFL := Lib.hid hfl
  have HLL := Lib.hid hll
  clear hcl hf hfl hll hrd4 HS4 HS3 HS2 d1 d2 d3 d4 HB1
  go_wp2_with (fail)
  go_loopw [11, 12] (fun c i wx => ∃ j : Nat, c = .int .i64 (cnt L j : Nat) ∧ i = .int .i64 j ∧ j ≤ ll ∧ Hid (Below w5.heap.size w5 wx)) (fun _ i _ => ll - (intOf i).toNat)
  case atStart => exact ⟨0, by simp [cnt, strip], rfl, by omega, Below.refl _ _⟩
  case round =>
    obtain ⟨j, rfl, rfl, hj, HBx⟩ := hrel
    by_cases hlt : j < ll
    · have hjL : j < L.length := by have := HLL.out; omega
      obtain ⟨M0, hM0⟩ : ∃ M0, M0 = L[j].2.1 := ⟨_, rfl⟩
      have hin : L[j] ∈ L := List.getElem_mem hjL
      have hirr : Q.MIrr p M0 := by rw [hM0]; exact HFL.out.irr _ (HFL.out.ok.exp (L[j].2) (List.mem_map.2 ⟨L[j], hin, rfl⟩)).1
      have h2 := hirr.irr.two
      obtain ⟨b, rfl, hb, hcb⟩ : ∃ b, av = some ⟨b, 0, none⟩ ∧ b < w5.heap.size ∧ ∀ j u, (flatF L)[j]? = some u → w5.cell? ⟨b, j, none⟩ = some u := by
        rcases HC.out with h | h
        · omega
        · exact h
      have hg := flatF_get L (j * 2) (by rw [Nat.mul_div_cancel _ (by omega)]; exact hjL)
      simp only [Nat.mul_div_cancel _ (show 0 < 2 by omega), Nat.mul_mod_left] at hg
      have c0' := hcb _ _ hg
      have hrow := row_of (HF.out.rows L[j] hin) (by rw [← hM0]; omega)
      rw [← hM0] at hrow
      obtain ⟨bu, cu, hu, hcu⟩ := hrow
      have c0 : wr.cell? ⟨b, j * 2, none⟩ = some (.slice (some ⟨bu, 0, none⟩) M0.length cu) := by
        rw [HBx.out.cell (p := ⟨b, j * 2, none⟩) hb]; rw [← hu]; exact c0'
      have e0 := hcu 0 (by omega)
      have hbu : bu < w5.heap.size := World.block_lt_of_cell? w5 _ e0
      have e1 : wr.cell? ⟨bu, 0, none⟩ = some (.int .i64 (M0[0] : Int)) := by rw [HBx.out.cell (p := ⟨bu, 0, none⟩) hbu]; exact e0
      have hstep := cnt_step L j hjL
      rw [← hM0] at hstep
      obtain ⟨ml, hml⟩ : ∃ ml, ml = M0.length := ⟨_, rfl⟩
      rw [← hml] at c0 hstep h2
      obtain ⟨C0, hC0⟩ : ∃ C0, C0 = cnt L j := ⟨_, rfl⟩
      rw [← hC0] at hstep ⊢
      obtain ⟨cc, hcc⟩ : ∃ cc, cc = M0.getD 0 0 := ⟨_, rfl⟩
      have hM0l : 0 < M0.length := by omega
      rw [← Q.getD_get hM0l, ← hcc] at e1
      have hccp : cc < p := by rw [hcc]; exact hirr.irr.pol.red.getD (by omega) 0
      have HST := Lib.hid hstep
      have HM := Lib.hid (And.intro hirr (And.intro hml hcc))
      have hCl : C0 ≤ 33 := by
        rw [hC0]
        unfold cnt strip
        refine Nat.le_trans (List.length_filter_le _ _) ?_
        rw [List.length_map, List.length_take, ← HLL.out]; omega
      clear hg c0' hu hcu e0 hstep hirr hml hC0 hcb hin hcc hM0l
      by_cases hm2 : ml = 2
      · obtain ⟨x, hx⟩ : ∃ x, x = (p - cc) % p := ⟨_, rfl⟩
        have hxI : ((p : Int) - (cc : Int)).tmod (p : Int) = (x : Int) := by
          rw [Int.tmod_eq_emod_of_nonneg (by omega), show ((p : Int) - (cc : Int)) = ((p - cc : Nat) : Int) by omega, hx]; rfl
        have hxI2 : ((p : Int) - (cc : Int)) % (p : Int) = (x : Int) := by
          rw [show ((p : Int) - (cc : Int)) = ((p - cc : Nat) : Int) by omega, hx]; rfl
        have hlin := Q.is_lin (p := p) (by omega) HM.out.1 (by rw [← HM.out.2.1]; exact hm2)
        rw [← HM.out.2.2, ← hx] at hlin
        have hxp := hlin.2
        have hmemL : Q.lin p x ∈ l := by
          rw [← hlin.1, hM0]
          exact (HFL.out.ok.exp (L[j].2) (List.mem_map.2 ⟨L[j], List.getElem_mem hjL, rfl⟩)).1
        have hval : Q.valP p (Q.uniF p K) x = 0 := (Q.lin_mem hP.out (Q.uniF_pol hP.out.1 hK1) HFL.out.irr (Q.facL_ev (Q.uniF_mon hK1) HFL.out) hxp).1 hmemL
        have hroot : x ^ K % p = 1 := (Q.uniF_val hP.out.1 hK1 x).1 hval
        have HV := Lib.hid (And.intro hval hroot)
        have hb2 : ((ml : Int) != 2) = false := by simp [hm2]
        have hHS : Hid (cnt L (j + 1) = C0 + 1) := by show _ = _; rw [HST.out, if_pos hm2]
        have hpz : ¬ p = 0 := by omega
        clear hlin hmemL hval hroot hx hm2
        go_wp2_with (fail)
        refine (Order_un hP.out hp2 hK1 hxp HV.out.2 _).mono ?_
        rintro e w6 ⟨⟨o, rfl, ho1, ho2, ho3⟩, hB6⟩
        have HB6 : Hid (Below w5.heap.size w5 w6) := HBx.out.trans (hB6.mono HBx.out.size)
        have hrd6 := Lib.hid (hF5.out w6 HB6.out)
        have hlenU : (Q.uniF p K).length ≤ 33 := by rw [Q.uniF_len hK1]; omega
        clear hB6
        go_wp2_with (fail)
        refine (Value_ok p x (Q.uniF p K) _ _ hP hp2 hxp hrd6 (Q.uniF_pol hP.out.1 hK1) hlenU).mono ?_
        rintro e w7 ⟨rfl, hB7⟩
        rw [HV.out.1]
        have HB7 : Hid (Below w5.heap.size w5 w7) := HB6.out.trans (hB7.mono HB6.out.size)
        have hoz : ¬ o = 0 := by omega
        have hg1 : decide ((o : Int) < 1) = false := by simp; omega
        have hg2 : (K : Int).tmod (o : Int) = 0 := by
          rw [Int.tmod_eq_emod_of_nonneg (by omega)]; exact_mod_cast congrArg (fun z : Nat => (z : Int)) ho3
        have hg3 : (K : Int) % (o : Int) = 0 := by exact_mod_cast congrArg (fun z : Nat => (z : Int)) ho3
        clear hB7 hlenU
        go_wp2_with (fail)
        go_roundw
        case rel => exact ⟨j + 1, by rw [hHS.out]; go_num, by go_num, by omega, HB7.out⟩
        case measure => simp [intOf]; omega
      · have hb2 : ((ml : Int) != 2) = true := by simp; omega
        have hHS : Hid (cnt L (j + 1) = C0) := by show _ = _; rw [HST.out, if_neg hm2]; omega
        clear hm2
        go_wp2_with (fail)
        go_roundw
        case rel => exact ⟨j + 1, by rw [hHS.out], by go_num, by omega, HBx.out⟩
        case measure => simp [intOf]; omega
    · obtain rfl : j = ll := by omega
      have hcnt : Hid (cnt L j = Nat.gcd K (p - 1)) := by
        have h1 := Q.count_lin hP.out hK1 HFL.out
        rw [Q.count_roots hP.out hK1] at h1
        show cnt L j = _
        unfold cnt
        rw [HLL.out, List.take_length]; exact h1
      have hd1 : decide (j < j) = false := by simp
      have hgd := gcdT_is K (p - 1) wr (by omega) (by omega)
      have hp1 : ((p - 1 : Nat) : Int) = (p : Int) - 1 := by omega
      rw [hp1] at hgd
      have HG := Lib.hid hgd
      rw [hcnt.out]
      clear hgd hp1
      go_wp2_with (first
        | (go_at_call 9; refine HG.out.mono ?_; rintro e w8 ⟨rfl, rfl⟩)
        | (go_at_call 10; refine (two_is _).mono ?_; rintro e w9 ⟨rfl, hB9⟩; have HB9 := Lib.hid hB9; clear hB9))
      go_ret
      have h5 := HB5.out.trans (HBx.out.mono HB5.out.size)
      exact ⟨rfl, h5.trans (HB9.out.mono h5.size)⟩

set_option maxRecDepth 100000 in
theorem lifted (os : Os) (started : os.Started) (H : Type) (enc : TypeId × Value → H) :
    ReturnsInHanded {} Tryz.checked os 3 .any (Rows.topUnitySpec.pre6 enc Tryz.prog Tryz.f3 Rows.topUnityRow.domain false) (Rows.topUnitySpec.post enc Tryz.prog Tryz.f3 false true false false) := by
  refine returnsInHanded_of_change (C := Tryz.checked) own started (by kernel_rfl) Tryz.func3
    (ChangeSpec.witness6 (enc := enc) (C := Tryz.checked) false ⟨#[], #[.int .i64 0, .int .i64 0], []⟩ 8 (by kernel_rfl) (by kernel_rfl) (by kernel_rfl) (by kernel_rfl)) ?_
  intro W base args ds gs before hval0 hW hcnd _
  have hval : ∀ (j : Nat) t v, Tryz.f3.params[j]? = some t → args[j]? = some v → Value.okWide Tryz.prog W .any base t v := hval0
  have hW' := hW
  obtain ⟨p, q, hA0, hV, rfl, hfz, hnd⟩ := hW
  have hA : DataW.TrodAll enc Tryz.prog W 0 (fun _ => true) true Tryz.f3.params.toList args.toList ds p := hA0
  rw [Tryz.params3] at hA hval
  obtain ⟨v0, vs0, d0, ds0, p0, q0, hargs, rfl, rfl, h0, r0⟩ := trodAll_cons hA
  obtain ⟨v1, vs1, d1, ds1, p1, q1, rfl, rfl, rfl, h1, r1⟩ := trodAll_cons r0
  obtain ⟨rfl, rfl, rfl⟩ := trodAll_nil r1
  obtain rfl : args = #[v0, v1] := by cases args; simp_all
  obtain ⟨rfl, rfl⟩ := trodVars_none hV
  obtain ⟨a0, rfl, rfl, rfl, w0⟩ := open_int Tryz.underlying3 (hval 0 3 v0 rfl rfl) h0
  obtain ⟨a1, rfl, rfl, rfl, w1⟩ := open_int Tryz.underlying3 (hval 1 3 v1 rfl rfl) h1
  clear hA0 hval0
  simp only [List.append_nil] at hW'
  refine (walk a0 a1 w0 w1 W).mono fun e W' ⟨he, hg⟩ => ?_
  subst he
  exact ⟨_, rfl, _, _, _, [], [], [], hW', trodAll_cons_mk (shut_bool Tryz.underlying4 _) trodAll_mk0, trodAll_cons_mk (shut_int Tryz.underlying3 w0) (trodAll_cons_mk (shut_int Tryz.underlying3 w1) trodAll_mk0), rfl, hg.frame _, fun h => by cases h⟩

theorem over : Rows.topUnityRow.holds Tryz.pinned (OpenSpec.ofChange Rows.topUnitySpec) :=
  OpenClaim.holds_of_wide 3 Tryz.f3 rfl rfl rfl rfl rfl rfl rfl ⟨rfl, rfl, rfl, rfl, rfl⟩ rfl rfl rfl rfl rfl (by kernel_rfl) Tryz.func3 (by kernel_rfl)
    (of_decide_eq_true (by kernel_rfl)) (by unfold Func.isWrapper; first | (rw [if_pos (by decide +kernel)]; kernel_rfl) | (rw [if_neg (by decide +kernel)]; exact ⟨rfl, rfl⟩))
    (fun os started H enc _ => lifted os started H enc)

theorem proved : Rows.TopUnitySaid := over

end Go.Proofs.YtgcjdojhfimceaaGreat.topUnity
